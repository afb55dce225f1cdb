/-
  Words for slices of pairs of numbers: such a slice reads as a list of pairs, nil let in; one that the call itself made; relations as values.
-/
import Derived.Test.YtjioiaeiggjneaaDoorKChg
import Derived.Test.YtjioiaeiggjneaaDoorKOwnI
import Derived.Test.YtjioiaeiggjneaaDoorKRelDist
import Derived.Test.YtjioiaeiggjneaaDoorProg
import Derived.KernelRfl
namespace Go.Proofs.YtjioiaeiggjneaaDoor
open Go.RowKit

/-- The cells of a list of pairs. -/
def ct : Prs → List Value
  | [] => []
  | t :: l => .int .i64 t.1 :: .int .i64 t.2 :: ct l
theorem ctLen : ∀ l : Prs, (ct l).length = l.length * 2
  | [] => rfl
  | t :: l => by rw [ct, List.length_cons, List.length_cons, List.length_cons, ctLen l]; omega
theorem ctApp : ∀ a b : Prs, ct (a ++ b) = ct a ++ ct b
  | [], b => rfl
  | t :: a, b => by rw [List.cons_append, ct, ct, ctApp a b]; rfl
theorem ctAt : ∀ (l : Prs) (j : Nat) (h : j < l.length), (ct l)[j * 2]? = some (.int .i64 l[j].1) ∧ (ct l)[j * 2 + 1]? = some (.int .i64 l[j].2)
  | t :: l, 0, _ => ⟨rfl, rfl⟩
  | t :: l, j + 1, h => by
    have := ctAt l j (by simpa using h)
    rw [ct, show (j + 1) * 2 = j * 2 + 1 + 1 by omega, List.getElem?_cons_succ, List.getElem?_cons_succ, List.getElem?_cons_succ, List.getElem?_cons_succ]
    exact this
theorem ctOne : ∀ l : Prs, ∀ u ∈ ct l, u.oneCell' = true
  | [], u, h => by cases h
  | t :: l, u, h => by
    rw [ct, List.mem_cons, List.mem_cons] at h
    rcases h with rfl | rfl | h
    · rfl
    · rfl
    · exact ctOne l u h

/-- In w the slice with address A, capacity c and as many pairs as l reads as the list of pairs l. -/
structure Rp (w : World) (A : Option Addr) (c : Nat) (l : Prs) : Prop where
  le : l.length ≤ c
  max : c ≤ maxLen
  at_ : 0 < l.length → ∃ b off, A = some ⟨b, off, none⟩ ∧ b < w.heap.size ∧ ∀ j (h : j < l.length), w.cell? ⟨b, off + j * 2, none⟩ = some (.int .i64 l[j].1) ∧ w.cell? ⟨b, off + j * 2 + 1, none⟩ = some (.int .i64 l[j].2)
section
variable {w w' : World} {A : Option Addr} {c : Nat} {l : Prs}
theorem Rp.nil : Rp w none 0 [] := ⟨Nat.zero_le _, Nat.zero_le _, fun h => absurd h (by simp)⟩
theorem Rp.one (h : Rp w A c l) {k : Nat} (hk : k < l.length) : ∃ b off, A = some ⟨b, off, none⟩ ∧ b < w.heap.size ∧ w.cell? ⟨b, off + k * 2, none⟩ = some (.int .i64 l[k].1) ∧ w.cell? ⟨b, off + k * 2 + 1, none⟩ = some (.int .i64 l[k].2) := by
  obtain ⟨b, off, e, hb, hc⟩ := h.at_ (by omega)
  exact ⟨b, off, e, hb, hc k hk⟩
theorem Rp.below (h : Rp w A c l) (hb : Below w.heap.size w w') : Rp w' A c l :=
  ⟨h.le, h.max, fun hn => by
    obtain ⟨b, off, e, hl, hc⟩ := h.at_ hn
    exact ⟨b, off, e, Nat.lt_of_lt_of_le hl hb.size, fun j hj => ⟨(hb.cell hl).trans (hc j hj).1, (hb.cell hl).trans (hc j hj).2⟩⟩⟩
theorem Rp.drewN (h : Rp w A c l) (n : Nat) : Rp (w.drewN n) A c l := ⟨h.le, h.max, h.at_⟩
theorem Rp.alloc (h : Rp w A c l) (o : Obj) : Rp (w.alloc o) A c l := h.below ((Below.refl _ w).alloc (Nat.le_refl _) o)
theorem Rp.chg {F : Nat → Prop} (h : Rp w A c l) (hc : Chg w w' F) (hF : ∀ ad, A = some ad → 0 < l.length → F ad.block) : Rp w' A c l :=
  ⟨h.le, h.max, fun hn => by
    obtain ⟨b, off, e, hl, hcell⟩ := h.at_ hn
    have hb : ∀ i, w'.cell? ⟨b, i, none⟩ = w.cell? ⟨b, i, none⟩ := fun i => World.cell?_of_block (hc.block b hl (by have := hF _ e hn; exact this))
    exact ⟨b, off, e, Nat.lt_of_lt_of_le hl hc.size, fun j hj => ⟨(hb _).trans (hcell j hj).1, (hb _).trans (hcell j hj).2⟩⟩⟩
theorem Rp.drop (h : Rp w A c l) (k : Nat) (hk : k ≤ l.length) : Rp w (if c = k then A else A.map (·.add (k * 2))) (c - k) (l.drop k) := by
  refine ⟨by have := h.le; rw [List.length_drop]; omega, by have := h.max; omega, fun hn => ?_⟩
  rw [List.length_drop] at hn
  obtain ⟨b, off, rfl, hb, hc⟩ := h.at_ (by omega)
  rw [if_neg (by have := h.le; omega)]
  refine ⟨b, off + k * 2, by rw [Option.map_some, Addr.add_lit], hb, fun j hj => ?_⟩
  rw [List.length_drop] at hj
  rw [show off + k * 2 + j * 2 = off + (k + j) * 2 by omega]
  have := hc (k + j) (by omega)
  simpa using this
end

theorem infoPair : (Tryd.prog.info? 35).map (fun i => (i.zero, i.size, i.bytes)) = some (some (.agg #[.int .i64 0, .int .i64 0]), 2, 16) := by kernel_rfl
/-- v is a row of pairs of the call's own (from block base on) that holds l. -/
def OwnP (w : World) (base : Nat) (v : Value) (l : Prs) : Prop := w.ownsRow base 35 2 v l.length (ct l)
section
variable {w w' : World} {base : Nat} {v : Value} {l : Prs}
theorem OwnP.alloc (h : OwnP w base v l) (o : Obj) : OwnP (w.alloc o) base v l := World.ownsRow.alloc h o
theorem OwnP.drewN (h : OwnP w base v l) (n : Nat) : OwnP (w.drewN n) base v l := h
theorem OwnP.nil (w : World) (base : Nat) : OwnP w base (.slice none 0 0) [] := World.ownsRow_nil _ _ _ _
theorem OwnP.lt (h : OwnP w base v l) {g : Nat} (hg : v.ownBlock = some g) : base ≤ g ∧ g < w.heap.size := World.ownsRow.lt h g hg
theorem OwnP.rd (h : OwnP w base v l) : ∃ A c, v = .slice A l.length c ∧ Rp w A c l ∧ (∀ ad, A = some ad → base ≤ ad.block ∧ v.ownBlock = some ad.block) := by
  rcases h.2 with ⟨rfl, h0⟩ | ⟨g, cap, cur, rfl, hb, hg, hc, hm, hs, ht⟩
  · have : l = [] := List.eq_nil_of_length_eq_zero h0
    subst this
    exact ⟨none, 0, rfl, Rp.nil, by simp⟩
  · refine ⟨some ⟨g, 0, none⟩, cap, rfl, ⟨hc, hm, fun _ => ⟨g, 0, rfl, (h.lt (g := g) rfl).2, fun j hj => ?_⟩⟩, fun ad h => by injection h with h; subst h; exact ⟨hb, rfl⟩⟩
    have := ctAt l j hj
    have h1 := World.ownsRow.cells h (g := g) rfl _ _ this.1
    have h2 := World.ownsRow.cells h (g := g) rfl _ _ this.2
    rw [Addr.add_lit] at h1 h2
    exact ⟨h1, by rw [Nat.add_assoc]; exact h2⟩
end
theorem ownChg2 {w w' : World} {F : Nat → Prop} {base : Nat} {e : TypeId} {s : Nat} {v : Value} {n : Nat} {xs : List Value} (h : w.ownsRow base e s v n xs) (hc : Chg w w' F) (hF : ∀ g, v.ownBlock = some g → F g) : w'.ownsRow base e s v n xs := by
  refine ⟨h.1, ?_⟩
  rcases h.2 with h2 | ⟨g, cap, cur, rfl, hb, hg, r⟩
  · exact .inl h2
  · exact .inr ⟨g, cap, cur, rfl, hb, (hc.block g (World.ownsRow.lt h g rfl).2 (hF g rfl)).trans hg, r⟩
theorem ownMono2 {w : World} {base base' : Nat} {e : TypeId} {s : Nat} {v : Value} {n : Nat} {xs : List Value} (h : w.ownsRow base e s v n xs) (hb : base' ≤ base) : w.ownsRow base' e s v n xs := by
  refine ⟨h.1, ?_⟩
  rcases h.2 with h2 | ⟨g, cap, cur, rfl, hg, r⟩
  · exact .inl h2
  · exact .inr ⟨g, cap, cur, rfl, Nat.le_trans hb hg, r⟩
theorem ownApart2 {w : World} {base base' : Nat} {e e' : TypeId} {s s' : Nat} {v v' : Value} {n n' : Nat} {xs xs' : List Value} (h : w.ownsRow base e s v n xs) (h' : w.ownsRow base' e' s' v' n' xs') (hne : e ≠ e') {g : Nat} (hg : v.ownBlock = some g) : v'.ownBlock ≠ some g := by
  intro hg'
  rcases h.2 with ⟨rfl, _⟩ | ⟨k, cap, cur, rfl, _, hk, _⟩
  · simp [Value.ownBlock] at hg
  · rcases h'.2 with ⟨rfl, _⟩ | ⟨k', cap', cur', rfl, _, hk', _⟩
    · simp [Value.ownBlock] at hg'
    · have e1 : k = g := by simpa [Value.ownBlock] using hg
      have e2 : k' = g := by simpa [Value.ownBlock] using hg'
      subst e1; subst e2
      rw [hk] at hk'
      injection hk' with hk'
      injection hk' with _ ht
      exact hne ht
theorem OwnP.chg {w w' : World} {F : Nat → Prop} {base : Nat} {v : Value} {l : Prs} (h : OwnP w base v l) (hc : Chg w w' F) (hF : ∀ g, v.ownBlock = some g → F g) : OwnP w' base v l := ownChg2 h hc hF
theorem OwnP.below {w w' : World} {base : Nat} {v : Value} {l : Prs} (h : OwnP w base v l) (hb : Below w.heap.size w w') : OwnP w' base v l := h.chg (Chg.ofBelow hb fun _ => True) fun _ _ => trivial
theorem OwnP.mono {w : World} {base base' : Nat} {v : Value} {l : Prs} (h : OwnP w base v l) (hb : base' ≤ base) : OwnP w base' v l := ownMono2 h hb

/-- A relation as a value. -/
abbrev relV (N : Int) (A : Option Addr) (n c : Nat) : Value := .agg #[.int .i64 N, .slice A n c]
/-- The call returns the relation on N with the pairs l; nothing that was in memory has changed. -/
def GivesR (N : Int) (l : Prs) (w : World) (e : Ending) (w' : World) : Prop := ∃ A c, e = .returned (relV N A l.length c) ∧ Rp w' A c l ∧ Below w.heap.size w w'
/-- The same with an error code beside it. -/
def GivesE (N : Int) (l : Prs) (k : Int) (w : World) (e : Ending) (w' : World) : Prop := ∃ A c, e = .returned (.tuple #[relV N A l.length c, .int .i64 k]) ∧ Rp w' A c l ∧ Below w.heap.size w w'

theorem ctCells {w : World} {A : Option Addr} {c : Nat} {l : Prs} (h : Rp w A c l) {b off : Nat} (hA : A = some ⟨b, off, none⟩) : ∀ j u, (ct l)[j]? = some u → w.cell? ((⟨b, off, none⟩ : Addr).add j) = some u := by
  intro j u hu
  have hj : j < l.length * 2 := by have := (List.getElem?_eq_some_iff.1 hu).1; rwa [ctLen] at this
  obtain ⟨b', off', e, _, hc⟩ := h.at_ (by omega)
  rw [hA] at e
  injection e with e
  injection e with e1 e2
  subst e1; subst e2
  have hk := ctAt l (j / 2) (by omega)
  have hc' := hc (j / 2) (by omega)
  rw [Addr.add_lit]
  rcases Nat.mod_two_eq_zero_or_one j with e | e
  · have e2 : j = j / 2 * 2 := by omega
    rw [e2, hk.1] at hu
    rw [e2, hc'.1, ← hu]
  · have e2 : j = j / 2 * 2 + 1 := by omega
    rw [e2, hk.2] at hu
    rw [e2, ← Nat.add_assoc, hc'.2, ← hu]
theorem cellPair (w : World) (x n : Int) (T : TypeId) : Rp (w.alloc (.cells #[.int .i64 x, .int .i64 n] T)) (some ⟨w.heap.size, 0, none⟩) 1 [(x, n)] :=
  ⟨Nat.le_refl _, by simp [maxLen], fun _ => ⟨w.heap.size, 0, rfl, by simp, fun j hj => by
    obtain rfl : j = 0 := by simpa using hj
    have hh := heap_alloc_new w (.cells #[.int .i64 x, .int .i64 n] T)
    exact ⟨by rw [cell_of_row _ _ _ _ T (0, 0) hh]; rfl, by rw [cell_of_row _ _ _ _ T (0, 0) hh]; rfl⟩⟩⟩
/-- Pairs of numbers of the kind. -/
abbrev wfP (x y : Int) : Prop := (Lit.int .i64 x).wf = true ∧ (Lit.int .i64 y).wf = true
theorem wfPair {x y : Int} (h : (Lit.int .i64 x).wf = true ∧ (Lit.int .i64 y).wf = true) : (Lit.int .i64 x).wf = true := h.1
/-- A number from 0 to 64 is one of the kind. -/
theorem wfSmall {x : Int} (h : 0 ≤ x) (h' : x ≤ 1000000) : (Lit.int .i64 x).wf = true := by
  simp [Lit.wf, IntKind.min, IntKind.max, IntKind.bits, IntKind.signed]; omega
end Go.Proofs.YtjioiaeiggjneaaDoor
