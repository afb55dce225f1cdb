/-
  Words for relations in memory: which pairs a list holds, a relation's own block, results that are relations.
-/
import Derived.Test.YtjoffidlfkmelaaDoorKOwn
import Derived.Test.YtjoffidlfkmelaaDoorKRel
import Derived.Test.YtjoffidlfkmelaaDoorProg
import Derived.KernelRfl
import Derived.Deep.QuietTactic
import Derived.BigQuiet
import Derived.Outline
import Derived.LoopTactic
import Derived.WalkKit
import Derived.Lib.Hide
import Derived.Maps.OwnOps
import Derived.Maps.Views
import Derived.Test.YtjoffidlfkmelaaDoorKMk
import Derived.Deep.RegionHeld3
namespace Go.Proofs.YtjoffidlfkmelaaDoor
open Go.RowKit

theorem Chg.setCell (w : World) (p : Addr) (v : Value) : Chg w (w.setCell p v) (fun g => g ≠ p.block) :=
  ⟨rfl, rfl, rfl, by simp, fun k _ hk => heap_setCell_other w p k v hk⟩
end Go.Proofs.YtjoffidlfkmelaaDoor

namespace Go.Proofs.YtjoffidlfkmelaaDoor
open Go.RowKit

/-- E with a. -/
def with_ (E : Nat → Bool) (a : Nat) (x : Nat) : Bool := E x || decide (x = a)
theorem withIff {E : Nat → Bool} {a x : Nat} : with_ E a x = true ↔ E x = true ∨ x = a := by unfold with_; rw [Bool.or_eq_true, decide_eq_true_iff]
/-- The row of Booleans of E. -/
def bl (n : Nat) (E : Nat → Bool) : List Bool := (List.range n).map E
theorem blLen (n : Nat) (E : Nat → Bool) : (bl n E).length = n := by simp [bl]
theorem blAt {n : Nat} {E : Nat → Bool} {i : Nat} (h : i < n) : (bl n E)[i]? = some (E i) := by simp [bl, h]
theorem blSet (n : Nat) (E : Nat → Bool) (a : Nat) : (bl n E).set a true = bl n (with_ E a) := by
  refine List.ext_getElem? fun i => ?_
  by_cases hi : i < n
  · rw [blAt hi, List.getElem?_set]
    by_cases e : a = i
    · subst e
      rw [if_pos rfl, if_pos (by rw [blLen]; exact hi)]
      congr 1
      exact (withIff.2 (.inr rfl)).symm
    · rw [if_neg e, blAt hi]
      congr 1
      unfold with_
      rw [decide_eq_false (Ne.symm e), Bool.or_false]
  · rw [List.getElem?_eq_none (by rw [List.length_set, blLen]; omega), List.getElem?_eq_none (by rw [blLen]; omega)]
theorem blFalse (n : Nat) : bl n (fun _ => false) = List.replicate n false := by
  refine List.ext_getElem? fun i => ?_
  by_cases hi : i < n
  · rw [blAt hi, List.getElem?_replicate, if_pos hi]
  · rw [List.getElem?_eq_none (by rw [blLen]; omega), List.getElem?_eq_none (by simp; omega)]
/-- Block g is a row of n Booleans: those of E. -/
def RowB (w : World) (g n : Nat) (E : Nat → Bool) : Prop := w.ownsRow 0 4 1 (.slice (some ⟨g, 0, none⟩) n n) n ((bl n E).map Value.bool)
section
variable {w w' : World} {g n : Nat} {E : Nat → Bool}
theorem RowB.lt (h : RowB w g n E) : g < w.heap.size := (World.ownsRow.lt h g rfl).2
theorem RowB.chg {F : Nat → Prop} (h : RowB w g n E) (hc : Chg w w' F) (hF : F g) : RowB w' g n E := ownChg h hc fun k hk => by
  have : g = k := by simpa [Value.ownBlock] using hk
  exact this ▸ hF
theorem RowB.cell (h : RowB w g n E) {i : Nat} (hi : i < n) : w.cell? ⟨g, i, none⟩ = some (.bool (E i)) := by
  unfold RowB at h
  rw [World.ownsRow.cellAt h i (by omega), List.getElem?_map, blAt hi]; rfl
theorem RowB.frozen (h : RowB w g n E) (i : Nat) : w.frozen? ⟨g, i, none⟩ = false := World.ownsRow.frozenAt h i
theorem RowB.set (h : RowB w g n E) (i : Nat) : RowB (w.setCell ⟨g, i, none⟩ (.bool true)) g n (with_ E i) := by
  have := (World.ownsRow.stored h i (.bool true)).1
  unfold RowB
  rw [← blSet, List.map_set]
  exact this
theorem RowB.drew (h : RowB w g n E) : RowB w.drew g n E := h
end
/-- The row of bools as it is made. -/
theorem RowB.made {w w1 : World} {n : Nat} (o1 : w1.ownsRow 0 4 1 (.slice (some ⟨w.heap.size, 0, none⟩) n n) n (madeCells (Value.bool false).cells (n * 1)).toList) : RowB w1 w.heap.size n (fun _ => false) := by
  have e : (madeCells (Value.bool false).cells (n * 1)).toList = (List.replicate n false).map Value.bool := by
    rw [Nat.mul_one, List.map_replicate]; exact toList_madeCells_one _ _
  rw [e, ← blFalse] at o1
  exact o1

/-- E with v at a. -/
def updB (E : Nat → Bool) (a : Nat) (v : Bool) (x : Nat) : Bool := if x = a then v else E x
theorem blUpd (n : Nat) (E : Nat → Bool) (a : Nat) (v : Bool) : (bl n E).set a v = bl n (updB E a v) := by
  refine List.ext_getElem? fun i => ?_
  by_cases hi : i < n
  · rw [blAt hi, List.getElem?_set]
    unfold updB
    by_cases e : a = i
    · subst e
      rw [if_pos rfl, if_pos (by rw [blLen]; exact hi), if_pos rfl]
    · rw [if_neg e, blAt hi, if_neg (Ne.symm e)]
  · rw [List.getElem?_eq_none (by rw [List.length_set, blLen]; omega), List.getElem?_eq_none (by rw [blLen]; omega)]
theorem RowB.put {w : World} {g n : Nat} {E : Nat → Bool} (h : RowB w g n E) (i : Nat) (v : Bool) : RowB (w.setCell ⟨g, i, none⟩ (.bool v)) g n (updB E i v) := by
  have := (World.ownsRow.stored h i (.bool v)).1
  unfold RowB
  rw [← blUpd, List.map_set]
  exact this
end Go.Proofs.YtjoffidlfkmelaaDoor

namespace Go.Proofs.YtjoffidlfkmelaaDoor
open Go.RowKit Go.Maps

/-- The numbers that follow i, as they stand in the list. -/
def sl (l : Prs) (i : Nat) : List Int := l.filterMap fun p => if p.1 = (i : Int) then some p.2 else none
/-- The slices vs are rows of integers of the call's own, no two in one block. -/
def RowsI (w : World) (base : Nat) (vs : List Value) (C : Nat → List Int) (n : Nat) : Prop :=
  (∀ i, i < n → ∃ v, vs[i]? = some v ∧ OwnI w base v (C i)) ∧ ∀ i j u v g, i < n → j < n → i ≠ j → vs[i]? = some u → vs[j]? = some v → u.ownBlock = some g → v.ownBlock ≠ some g
theorem RowsI.chg {w w' : World} {F : Nat → Prop} {base : Nat} {vs : List Value} {C : Nat → List Int} {n : Nat} (h : RowsI w base vs C n) (hc : Chg w w' F) (hF : ∀ i v g, i < n → vs[i]? = some v → v.ownBlock = some g → F g) : RowsI w' base vs C n :=
  ⟨fun i hi => by obtain ⟨v, h1, h2⟩ := h.1 i hi; exact ⟨v, h1, h2.chg hc fun g hg => hF i v g hi h1 hg⟩, h.2⟩
theorem rowsPut {wr X w2 : World} {base bg g n i : Nat} {vs : List Value} {C : Nat → List Int} {v v' : Value} {y : Int} (h : RowsI wr base vs C n) (ho : OwnL wr bg (.slice (some ⟨g, 0, none⟩) n n) vs) (hlen : vs.length = n) (hi : i < n) (hv : vs[i]? = some v)
    (c1 : Below wr.heap.size wr X) (hg : X.grownBy w2 v.ownBlock) (hm : Moved X v v' (C i).length 1) (ho' : OwnI w2 base v' (C i ++ [y])) (C' : Nat → List Int) (hC : ∀ j, C' j = if j = i then C i ++ [y] else C j) :
    RowsI (w2.setCell ⟨g, i, none⟩ v') base (vs.set i v') C' n ∧ OwnL (w2.setCell ⟨g, i, none⟩ v') bg (.slice (some ⟨g, 0, none⟩) n n) (vs.set i v') := by
  have hX : RowsI X base vs C n := h.chg (Chg.ofBelow c1 fun _ => True) fun _ _ _ _ _ _ => trivial
  have hoX : OwnL X bg (.slice (some ⟨g, 0, none⟩) n n) vs := ho.chg (Chg.ofBelow c1 fun _ => True) fun _ _ => trivial
  have hc2 : Chg X w2 (fun k => v.ownBlock ≠ some k) := Chg.ofGrown hg fun k hk => hk
  obtain ⟨v0, e0, hown0⟩ := hX.1 i hi
  rw [hv] at e0
  injection e0 with e0
  subst e0
  have hgv : ∀ k, v.ownBlock = some k → k ≠ g := fun k hk e => ownApart hown0 hoX (by decide) hk (by rw [e]; rfl)
  have ho2 : OwnL w2 bg (.slice (some ⟨g, 0, none⟩) n n) vs := hoX.chg hc2 fun k hk hv2 => by
    have : g = k := by simpa [Value.ownBlock] using hk
    exact hgv k hv2 this.symm
  have hgv' : ∀ k, v'.ownBlock = some k → k ≠ g := fun k hk e => ownApart ho' ho2 (by decide) hk (by rw [e]; rfl)
  have hc3 : Chg w2 (w2.setCell ⟨g, i, none⟩ v') (fun k => k ≠ g) := Chg.setCell w2 ⟨g, i, none⟩ v'
  refine ⟨⟨fun j hj => ?_, fun j k a b q hj hk hjk ha hb hq => ?_⟩, ?_⟩
  · rw [hC j]
    by_cases e : j = i
    · subst e
      rw [if_pos rfl]
      exact ⟨v', by rw [List.getElem?_set_self (by omega)], ho'.chg hc3 hgv'⟩
    · rw [if_neg e]
      obtain ⟨u, h1, h2⟩ := hX.1 j hj
      refine ⟨u, by rw [List.getElem?_set_ne (Ne.symm e)]; exact h1, ((OwnI.chg h2 hc2 fun q hq hv2 => hX.2 j i u v q hj hi e h1 hv hq hv2).chg hc3 fun q hq e' => ?_)⟩
      exact ownApart h2 hoX (by decide) hq (by rw [e']; rfl)
  · have hb2 : ∀ q, v'.ownBlock = some q → v.ownBlock = some q ∨ X.heap.size ≤ q := fun q hq => by
      rcases movedBlock hm with e | e
      · exact .inl (by rw [← e]; exact hq)
      · exact .inr (by rw [e] at hq; injection hq with hq; omega)
    have hlt : ∀ m, m < n → m ≠ i → ∀ u q, vs[m]? = some u → u.ownBlock = some q → v.ownBlock ≠ some q ∧ q < X.heap.size := fun m hm hmi u q hu huq => by
      obtain ⟨u', h1, h2⟩ := hX.1 m hm
      rw [hu] at h1
      injection h1 with h1
      subst h1
      exact ⟨hX.2 m i u v q hm hi hmi hu hv huq, (h2.lt huq).2⟩
    by_cases ej : j = i
    · subst ej
      rw [List.getElem?_set_self (by omega)] at ha
      injection ha with ha
      subst ha
      rw [List.getElem?_set_ne hjk] at hb
      intro hbq
      obtain ⟨h1, h2⟩ := hlt k hk (Ne.symm hjk) b q hb hbq
      rcases hb2 q hq with h3 | h3
      · exact h1 h3
      · omega
    · rw [List.getElem?_set_ne (Ne.symm ej)] at ha
      obtain ⟨h1, h2⟩ := hlt j hj ej a q ha hq
      by_cases ek : k = i
      · subst ek
        rw [List.getElem?_set_self (by omega)] at hb
        injection hb with hb
        subst hb
        intro hbq
        rcases hb2 q hbq with h3 | h3
        · exact h1 h3
        · omega
      · rw [List.getElem?_set_ne (Ne.symm ek)] at hb
        exact hX.2 j k a b q hj hk hjk ha hb hq
  · subst hlen
    have := (World.ownsRow.stored ho2 i v').1
    unfold OwnL
    rw [List.length_set]
    exact this

/-- The slice reads as the slices C 0, .., C (n - 1). -/
def RdF (w : World) (A : Option Addr) (c : Nat) (C : Nat → List Int) (n : Nat) : Prop :=
  ∃ vs, Rds w A c vs ∧ vs.length = n ∧ ∀ i, i < n → ∃ A' c', vs[i]? = some (.slice A' (C i).length c') ∧ Rd w A' c' (C i)
section
variable {w w' : World} {A : Option Addr} {c n : Nat} {C : Nat → List Int}
theorem RdF.below (h : RdF w A c C n) (hb : Below w.heap.size w w') : RdF w' A c C n := by
  obtain ⟨vs, h1, h2, h3⟩ := h
  refine ⟨vs, h1.below hb, h2, fun i hi => ?_⟩
  obtain ⟨A', c', e, hr⟩ := h3 i hi
  exact ⟨A', c', e, hr.below hb⟩
theorem RdF.one (h : RdF w A c C n) {k : Nat} (hk : k < n) : ∃ ad A' c', A = some ad ∧ ad.block < w.heap.size ∧ w.cell? (ad.add k) = some (.slice A' (C k).length c') ∧ Rd w A' c' (C k) := by
  obtain ⟨vs, h1, h2, h3⟩ := h
  obtain ⟨A', c', e, hr⟩ := h3 k hk
  obtain ⟨ad, ea, hb, hc⟩ := h1.at_ (by omega)
  exact ⟨ad, A', c', ea, hb, hc k _ e, hr⟩
theorem RdF.le (h : RdF w A c C n) : n ≤ c := by obtain ⟨vs, h1, h2, _⟩ := h; rw [← h2]; exact h1.le
theorem RdF.max (h : RdF w A c C n) : c ≤ maxLen := by obtain ⟨vs, h1, _, _⟩ := h; exact h1.max
end
end Go.Proofs.YtjoffidlfkmelaaDoor
