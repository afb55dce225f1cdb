/-
  Words for slices of pairs of numbers: such a slice reads as a list of pairs, nil let in; one that the call itself made; relations as values.
-/
import Derived.Test.YtpkagpobobmnfaaGreatDoorCOwn
import Derived.Test.YtpkagpobobmnfaaGreatDoorCRel
import Derived.Test.YtpkagpobobmnfaaGreatDoorProg
import Derived.KernelRfl
import Derived.Maps.OwnOps
import Derived.Maps.Views
import Derived.Maps.OwnSet
import Derived.Maps.RangeWalk
import Derived.WideKeyPair
import Derived.ChangeKeysEq
import Derived.Deep.QuietTactic
import Derived.BigQuiet
import Derived.Outline
import Derived.LoopTactic
import Derived.WalkKit
import Derived.Lib.Hide
namespace Go.Proofs.YtpkagpobobmnfaaGreatDoor
open Go.RowKit

/-- The cells of a list of pairs. -/
def ct : Prs → List Value
  | [] => []
  | t :: l => .int .i64 t.1 :: .int .i64 t.2 :: ct l
theorem ctLen : ∀ l : Prs, (ct l).length = l.length * 2
  | [] => rfl
  | t :: l => by rw [ct, List.length_cons, List.length_cons, List.length_cons, ctLen l]; omega
theorem ctApp : ∀ a b : Prs, ct (a ++ b) = ct a ++ ct b
  | [], b => rfl
  | t :: a, b => by rw [List.cons_append, ct, ct, ctApp a b]; rfl
theorem ctAt : ∀ (l : Prs) (j : Nat) (h : j < l.length), (ct l)[j * 2]? = some (.int .i64 l[j].1) ∧ (ct l)[j * 2 + 1]? = some (.int .i64 l[j].2)
  | t :: l, 0, _ => ⟨rfl, rfl⟩
  | t :: l, j + 1, h => by
    have := ctAt l j (by simpa using h)
    rw [ct, show (j + 1) * 2 = j * 2 + 1 + 1 by omega, List.getElem?_cons_succ, List.getElem?_cons_succ, List.getElem?_cons_succ, List.getElem?_cons_succ]
    exact this
theorem ctOne : ∀ l : Prs, ∀ u ∈ ct l, u.oneCell' = true
  | [], u, h => by cases h
  | t :: l, u, h => by
    rw [ct, List.mem_cons, List.mem_cons] at h
    rcases h with rfl | rfl | h
    · rfl
    · rfl
    · exact ctOne l u h

/-- In w the slice with address A, capacity c and as many pairs as l reads as the list of pairs l. -/
structure Rp (w : World) (A : Option Addr) (c : Nat) (l : Prs) : Prop where
  le : l.length ≤ c
  max : c ≤ maxLen
  at_ : 0 < l.length → ∃ b off, A = some ⟨b, off, none⟩ ∧ b < w.heap.size ∧ ∀ j (h : j < l.length), w.cell? ⟨b, off + j * 2, none⟩ = some (.int .i64 l[j].1) ∧ w.cell? ⟨b, off + j * 2 + 1, none⟩ = some (.int .i64 l[j].2)
section
variable {w w' : World} {A : Option Addr} {c : Nat} {l : Prs}
theorem Rp.nil : Rp w none 0 [] := ⟨Nat.zero_le _, Nat.zero_le _, fun h => absurd h (by simp)⟩
theorem Rp.one (h : Rp w A c l) {k : Nat} (hk : k < l.length) : ∃ b off, A = some ⟨b, off, none⟩ ∧ b < w.heap.size ∧ w.cell? ⟨b, off + k * 2, none⟩ = some (.int .i64 l[k].1) ∧ w.cell? ⟨b, off + k * 2 + 1, none⟩ = some (.int .i64 l[k].2) := by
  obtain ⟨b, off, e, hb, hc⟩ := h.at_ (by omega)
  exact ⟨b, off, e, hb, hc k hk⟩
theorem Rp.below (h : Rp w A c l) (hb : Below w.heap.size w w') : Rp w' A c l :=
  ⟨h.le, h.max, fun hn => by
    obtain ⟨b, off, e, hl, hc⟩ := h.at_ hn
    exact ⟨b, off, e, Nat.lt_of_lt_of_le hl hb.size, fun j hj => ⟨(hb.cell hl).trans (hc j hj).1, (hb.cell hl).trans (hc j hj).2⟩⟩⟩
theorem Rp.drewN (h : Rp w A c l) (n : Nat) : Rp (w.drewN n) A c l := ⟨h.le, h.max, h.at_⟩
theorem Rp.alloc (h : Rp w A c l) (o : Obj) : Rp (w.alloc o) A c l := h.below ((Below.refl _ w).alloc (Nat.le_refl _) o)
theorem Rp.chg {F : Nat → Prop} (h : Rp w A c l) (hc : Chg w w' F) (hF : ∀ ad, A = some ad → 0 < l.length → F ad.block) : Rp w' A c l :=
  ⟨h.le, h.max, fun hn => by
    obtain ⟨b, off, e, hl, hcell⟩ := h.at_ hn
    have hb : ∀ i, w'.cell? ⟨b, i, none⟩ = w.cell? ⟨b, i, none⟩ := fun i => World.cell?_of_block (hc.block b hl (by have := hF _ e hn; exact this))
    exact ⟨b, off, e, Nat.lt_of_lt_of_le hl hc.size, fun j hj => ⟨(hb _).trans (hcell j hj).1, (hb _).trans (hcell j hj).2⟩⟩⟩
theorem Rp.drop (h : Rp w A c l) (k : Nat) (hk : k ≤ l.length) : Rp w (if c = k then A else A.map (·.add (k * 2))) (c - k) (l.drop k) := by
  refine ⟨by have := h.le; rw [List.length_drop]; omega, by have := h.max; omega, fun hn => ?_⟩
  rw [List.length_drop] at hn
  obtain ⟨b, off, rfl, hb, hc⟩ := h.at_ (by omega)
  rw [if_neg (by have := h.le; omega)]
  refine ⟨b, off + k * 2, by rw [Option.map_some, Addr.add_lit], hb, fun j hj => ?_⟩
  rw [List.length_drop] at hj
  rw [show off + k * 2 + j * 2 = off + (k + j) * 2 by omega]
  have := hc (k + j) (by omega)
  simpa using this
end

theorem infoPair : (Tryz.prog.info? 66).map (fun i => (i.zero, i.size, i.bytes)) = some (some (.agg #[.int .i64 0, .int .i64 0]), 2, 16) := by kernel_rfl
/-- v is a row of pairs of the call's own (from block base on) that holds l. -/
def OwnP (w : World) (base : Nat) (v : Value) (l : Prs) : Prop := w.ownsRow base 66 2 v l.length (ct l)
section
variable {w w' : World} {base : Nat} {v : Value} {l : Prs}
theorem OwnP.alloc (h : OwnP w base v l) (o : Obj) : OwnP (w.alloc o) base v l := World.ownsRow.alloc h o
theorem OwnP.drewN (h : OwnP w base v l) (n : Nat) : OwnP (w.drewN n) base v l := h
theorem OwnP.nil (w : World) (base : Nat) : OwnP w base (.slice none 0 0) [] := World.ownsRow_nil _ _ _ _
theorem OwnP.lt (h : OwnP w base v l) {g : Nat} (hg : v.ownBlock = some g) : base ≤ g ∧ g < w.heap.size := World.ownsRow.lt h g hg
theorem OwnP.rd (h : OwnP w base v l) : ∃ A c, v = .slice A l.length c ∧ Rp w A c l ∧ (∀ ad, A = some ad → base ≤ ad.block ∧ v.ownBlock = some ad.block) := by
  rcases h.2 with ⟨rfl, h0⟩ | ⟨g, cap, cur, rfl, hb, hg, hc, hm, hs, ht⟩
  · have : l = [] := List.eq_nil_of_length_eq_zero h0
    subst this
    exact ⟨none, 0, rfl, Rp.nil, by simp⟩
  · refine ⟨some ⟨g, 0, none⟩, cap, rfl, ⟨hc, hm, fun _ => ⟨g, 0, rfl, (h.lt (g := g) rfl).2, fun j hj => ?_⟩⟩, fun ad h => by injection h with h; subst h; exact ⟨hb, rfl⟩⟩
    have := ctAt l j hj
    have h1 := World.ownsRow.cells h (g := g) rfl _ _ this.1
    have h2 := World.ownsRow.cells h (g := g) rfl _ _ this.2
    rw [Addr.add_lit] at h1 h2
    exact ⟨h1, by rw [Nat.add_assoc]; exact h2⟩
end
theorem ownChg2 {w w' : World} {F : Nat → Prop} {base : Nat} {e : TypeId} {s : Nat} {v : Value} {n : Nat} {xs : List Value} (h : w.ownsRow base e s v n xs) (hc : Chg w w' F) (hF : ∀ g, v.ownBlock = some g → F g) : w'.ownsRow base e s v n xs := by
  refine ⟨h.1, ?_⟩
  rcases h.2 with h2 | ⟨g, cap, cur, rfl, hb, hg, r⟩
  · exact .inl h2
  · exact .inr ⟨g, cap, cur, rfl, hb, (hc.block g (World.ownsRow.lt h g rfl).2 (hF g rfl)).trans hg, r⟩
theorem ownMono2 {w : World} {base base' : Nat} {e : TypeId} {s : Nat} {v : Value} {n : Nat} {xs : List Value} (h : w.ownsRow base e s v n xs) (hb : base' ≤ base) : w.ownsRow base' e s v n xs := by
  refine ⟨h.1, ?_⟩
  rcases h.2 with h2 | ⟨g, cap, cur, rfl, hg, r⟩
  · exact .inl h2
  · exact .inr ⟨g, cap, cur, rfl, Nat.le_trans hb hg, r⟩
theorem OwnP.chg {w w' : World} {F : Nat → Prop} {base : Nat} {v : Value} {l : Prs} (h : OwnP w base v l) (hc : Chg w w' F) (hF : ∀ g, v.ownBlock = some g → F g) : OwnP w' base v l := ownChg2 h hc hF
theorem OwnP.below {w w' : World} {base : Nat} {v : Value} {l : Prs} (h : OwnP w base v l) (hb : Below w.heap.size w w') : OwnP w' base v l := h.chg (Chg.ofBelow hb fun _ => True) fun _ _ => trivial
theorem OwnP.mono {w : World} {base base' : Nat} {v : Value} {l : Prs} (h : OwnP w base v l) (hb : base' ≤ base) : OwnP w base' v l := ownMono2 h hb

/-- A relation as a value. -/
abbrev relV (N : Int) (A : Option Addr) (n c : Nat) : Value := .agg #[.int .i64 N, .slice A n c]
/-- The call returns the relation on N with the pairs l; nothing that was in memory has changed. -/
def GivesR (N : Int) (l : Prs) (w : World) (e : Ending) (w' : World) : Prop := ∃ A c, e = .returned (relV N A l.length c) ∧ Rp w' A c l ∧ Below w.heap.size w w'
/-- The same with an error code beside it. -/
def GivesE (N : Int) (l : Prs) (k : Int) (w : World) (e : Ending) (w' : World) : Prop := ∃ A c, e = .returned (.tuple #[relV N A l.length c, .int .i64 k]) ∧ Rp w' A c l ∧ Below w.heap.size w w'

theorem ctCells {w : World} {A : Option Addr} {c : Nat} {l : Prs} (h : Rp w A c l) {b off : Nat} (hA : A = some ⟨b, off, none⟩) : ∀ j u, (ct l)[j]? = some u → w.cell? ((⟨b, off, none⟩ : Addr).add j) = some u := by
  intro j u hu
  have hj : j < l.length * 2 := by have := (List.getElem?_eq_some_iff.1 hu).1; rwa [ctLen] at this
  obtain ⟨b', off', e, _, hc⟩ := h.at_ (by omega)
  rw [hA] at e
  injection e with e
  injection e with e1 e2
  subst e1; subst e2
  have hk := ctAt l (j / 2) (by omega)
  have hc' := hc (j / 2) (by omega)
  rw [Addr.add_lit]
  rcases Nat.mod_two_eq_zero_or_one j with e | e
  · have e2 : j = j / 2 * 2 := by omega
    rw [e2, hk.1] at hu
    rw [e2, hc'.1, ← hu]
  · have e2 : j = j / 2 * 2 + 1 := by omega
    rw [e2, hk.2] at hu
    rw [e2, ← Nat.add_assoc, hc'.2, ← hu]
theorem cellPair (w : World) (x n : Int) (T : TypeId) : Rp (w.alloc (.cells #[.int .i64 x, .int .i64 n] T)) (some ⟨w.heap.size, 0, none⟩) 1 [(x, n)] :=
  ⟨Nat.le_refl _, by simp [maxLen], fun _ => ⟨w.heap.size, 0, rfl, by simp, fun j hj => by
    obtain rfl : j = 0 := by simpa using hj
    have hh := heap_alloc_new w (.cells #[.int .i64 x, .int .i64 n] T)
    exact ⟨by rw [cell_of_row _ _ _ _ T (0, 0) hh]; rfl, by rw [cell_of_row _ _ _ _ T (0, 0) hh]; rfl⟩⟩⟩
/-- Pairs of numbers of the kind. -/
abbrev wfP (x y : Int) : Prop := (Lit.int .i64 x).wf = true ∧ (Lit.int .i64 y).wf = true
/-- A number from 0 to 64 is one of the kind. -/
theorem wfSmall {x : Int} (h : 0 ≤ x) (h' : x ≤ 1000000) : (Lit.int .i64 x).wf = true := by
  simp [Lit.wf, IntKind.min, IntKind.max, IntKind.bits, IntKind.signed]; omega
end Go.Proofs.YtpkagpobobmnfaaGreatDoor

namespace Go.Proofs.YtpkagpobobmnfaaGreatDoor
open Go.RowKit Go.Maps Go.WideMaps

theorem keyOfArrInv {P : Program} {k e : TypeId} (A : ArrKey P k e 2) (he : P.underlying e = some (.int .i64)) (hsz : ∃ m, P.types.size = m + 1) {v : Value} {kl : Lit} (h : keyOf P k v = some kl) :
    ∃ p : Int × Int, v = .agg #[.int .i64 p.1, .int .i64 p.2] ∧ (Lit.int .i64 p.1).wf = true ∧ (Lit.int .i64 p.2).wf = true ∧ kl = .string (keyBytes [.int .i64 p.1, .int .i64 p.2]) := by
  obtain ⟨m, hm⟩ := hsz
  unfold keyOf at h
  simp only [A.hu] at h
  split at h
  · rename_i hf
    rw [Bool.and_eq_true] at hf
    have hg := hf.2
    obtain ⟨c0, c1, rfl⟩ : ∃ c0 c1, v = .agg #[c0, c1] := by
      simp only [Value.formed, A.hu, A.size] at hg
      cases v <;> simp at hg
      rename_i cs
      obtain ⟨l⟩ := cs
      match l, hg with
      | [a, b], _ => exact ⟨a, b, rfl⟩
    rw [hm] at h
    unfold Program.keyLits at h
    simp only [A.hu, Value.cells] at h
    rw [if_pos (by rw [A.size]; rfl), show List.range 2 = [0, 1] from rfl, List.mapM_cons, List.mapM_cons, List.mapM_nil] at h
    simp only [bind, Option.bind_eq_some_iff, pure, Option.some.injEq, Option.map_eq_some_iff, A.one] at h
    obtain ⟨ls, ⟨_, ⟨l0, h0', _, ⟨l1, h1', _, rfl, rfl⟩, rfl⟩, rfl⟩, rfl⟩ := h
    have w0 := keyLits_wf h0'
    have w1 := keyLits_wf h1'
    obtain ⟨x, e0, rfl⟩ := keyLits_int' he h0'
    obtain ⟨y, e1, rfl⟩ := keyLits_int' he h1'
    have e0' : c0 = .int .i64 x := by simpa using e0
    have e1' : c1 = .int .i64 y := by simpa using e1
    subst e0'; subst e1'
    have w0 := w0 (.int .i64 x) (by simp)
    have w1 := w1 (.int .i64 y) (by simp)
    exact ⟨(x, y), rfl, w0, w1, rfl⟩
  · cases h
theorem arrPair : ArrKey Tryz.prog 66 3 2 := ⟨Tryz.underlying66, by kernel_rfl, by kernel_rfl, by kernel_rfl⟩
theorem sizeTypes : ∃ m, Tryz.prog.types.size = m + 1 := by
  have h : 0 < Tryz.prog.types.size := of_decide_eq_true (by kernel_rfl)
  exact ⟨Tryz.prog.types.size - 1, by omega⟩
theorem keyedPair : Keyed Tryz.prog 66 := Keyed.of_law arrPair.law
/-- The pair (x, y) as a value. -/
abbrev pairV (x y : Int) : Value := .agg #[.int .i64 x, .int .i64 y]
/-- What a pair reads as where it is a key. -/
def keyP (x y : Int) : Lit := .string (keyBytes [.int .i64 x, .int .i64 y])
theorem keyOfPair {x y : Int} (hx : (Lit.int .i64 x).wf = true) (hy : (Lit.int .i64 y).wf = true) : keyOf Tryz.prog 66 (pairV x y) = some (keyP x y) := keyOf_pair arrPair Tryz.underlying3 sizeTypes hx hy
theorem keyOfPairInv {v : Value} {kl : Lit} (h : keyOf Tryz.prog 66 v = some kl) : ∃ p : Int × Int, v = pairV p.1 p.2 ∧ (Lit.int .i64 p.1).wf = true ∧ (Lit.int .i64 p.2).wf = true ∧ kl = keyP p.1 p.2 := keyOfArrInv arrPair Tryz.underlying3 sizeTypes h
theorem keyInj {x y x' y' : Int} (hx : (Lit.int .i64 x).wf = true) (hy : (Lit.int .i64 y).wf = true) (hx' : (Lit.int .i64 x').wf = true) (hy' : (Lit.int .i64 y').wf = true) (h : keyP x y = keyP x' y') : x = x' ∧ y = y' := by
  have := keyedPair.inj (keyOfPair hx hy) (by rw [h]; exact keyOfPair hx' hy')
  simpa using this

/-- Every value of the map is true. -/
def RT : Value → Option (DataW Value × List MemPlace)
  | .bool true => some (.lit (.bool true), [])
  | _ => none
theorem rtTrue {v : Value} {z : DataW Value × List MemPlace} (h : RT v = some z) : v = .bool true := by
  unfold RT at h
  split at h
  · rfl
  · cases h
/-- Block b is a map of at most n entries that holds just the pairs of S. -/
def MapP (w : World) (b n : Nat) (S : Int → Int → Bool) : Prop := ∃ D : DataW Value, w.ownsMap Tryz.prog 66 RT b n D ∧ ∀ x y, wfP x y → has D (keyP x y) = S x y
theorem zeroBool (w : World) : (zeroValue 4).run Tryz.prog w = .ok (.bool false) w := by kernel_rfl
section
variable {w w' : World} {b n : Nat} {S : Int → Int → Bool} {F : Nat → Prop}
theorem MapP.made (w : World) : MapP (w.alloc (.map #[] 0)) w.heap.size 0 (fun _ _ => false) := ⟨.map [], World.ownsMap_made _ _ _ _, fun _ _ _ => rfl⟩
theorem MapP.lt (h : MapP w b n S) : b < w.heap.size := by obtain ⟨D, h, _⟩ := h; exact h.lt
theorem MapP.chg (h : MapP w b n S) (hc : Chg w w' F) (hF : F b) : MapP w' b n S := by
  have hlt := h.lt
  obtain ⟨D, ⟨es, clock, hb, r⟩, hat⟩ := h
  exact ⟨D, ⟨es, clock, (hc.block b hlt hF).trans hb, r⟩, hat⟩
theorem MapP.below (h : MapP w b n S) (hb : Below w.heap.size w w') : MapP w' b n S := h.chg (Chg.ofBelow hb fun _ => True) trivial
theorem MapP.alloc (h : MapP w b n S) (o : Obj) : MapP (w.alloc o) b n S := h.below (belowAlloc w o)
theorem MapP.congr {T : Int → Int → Bool} (h : MapP w b n S) (hT : ∀ x y, wfP x y → S x y = T x y) : MapP w b n T := by
  obtain ⟨D, h1, h2⟩ := h
  exact ⟨D, h1, fun x y hw => (h2 x y hw).trans (hT x y hw)⟩
theorem MapP.mono (h : MapP w b n S) {m : Nat} (hn : n ≤ m) : MapP w b m S := by
  obtain ⟨D, h1, h2⟩ := h
  exact ⟨D, h1.mono hn, h2⟩
theorem MapP.look (h : MapP w b n S) {x y : Int} (hw : wfP x y) : (Instr.lookup 105 (.map (some b)) (pairV x y) false).run Tryz.prog w = .ok (.bool (S x y)) w := by
  obtain ⟨D, ⟨es, clock, hb, F, hs, rfl⟩, hat⟩ := h
  rw [← hat x y hw]
  rcases Maps.fit_look false keyedPair Tryz.underlying105 (zeroBool w) hb F (keyOfPair hw.1 hw.2) with ⟨h1, h2, h3⟩ | ⟨e0, z, h1, h2, h3, h4, h5, _⟩
  · rw [h1, has_false_of_atKey h3]; rfl
  · rw [h3, has_true_of_atKey h5]
    rw [rtTrue h4]; rfl
theorem MapP.put (h : MapP w b n S) (hn : n < maxLen) {x y : Int} (hw : wfP x y) :
    ∃ w', (Instr.mapUpdate 105 (.map (some b)) (pairV x y) (.bool true)).run Tryz.prog w = .ok () w' ∧ MapP w' b (n + 1) (fun u v => S u v || decide (u = x ∧ v = y)) ∧ w.grownBy w' (some b) := by
  obtain ⟨D, h, hat⟩ := h
  have hk := keyOfPair hw.1 hw.2
  obtain ⟨w', hr, ho, hg⟩ := h.update (t := 105) keyedPair Tryz.underlying105 hn hk (val := .bool true) (d := .lit (.bool true)) (ps := []) rfl
  refine ⟨w', hr, ⟨_, ho, fun u v huv => ?_⟩, hg⟩
  by_cases e : u = x ∧ v = y
  · obtain ⟨rfl, rfl⟩ := e
    rw [has_put_same h.isMap (keyedPair.key hk)]
    simp
  · rw [has_put_other (fun e' => e (keyInj huv.1 huv.2 hw.1 hw.2 e')), hat u v huv]
    show S u v = (S u v || decide (u = x ∧ v = y))
    rw [decide_eq_false e, Bool.or_false]
end
theorem wpList_putP (w : World) {ops : Array Oper} {rest : List Oper} {o : Oper} {a : Act} {Q : Exit → Act → World → Prop}
    (hg : o.guard = none) (m x u : Operand) (hop : o.op = Op.mapUpdate 105 m x u) (b n : Nat) (S : Int → Int → Bool) (hown : MapP w b n S) (hn : n < maxLen) (hm : a.eval m = .map (some b)) (y z : Int) (hx : a.eval x = pairV y z) (hy : wfP y z)
    (hu : a.eval u = .bool true) (hK : ∀ w', MapP w' b (n + 1) (fun s t => S s t || decide (s = y ∧ t = z)) → w.grownBy w' (some b) → wpList Tryz.prog ops Q rest (a.put o.dst undef) w') : wpList Tryz.prog ops Q (o :: rest) a w := by
  refine wpList_plain hg fun K' hK' => ?_
  obtain ⟨w', hrun, r1, r2⟩ := hown.put hn hy
  unfold Oper.wp
  simp [execOp, hop, hm, hx, hu, hrun, Result.andThen]
  exact hK' _ _ (hK w' r1 r2)
end Go.Proofs.YtpkagpobobmnfaaGreatDoor

namespace Go.Proofs.YtpkagpobobmnfaaGreatDoor
open Go.RowKit

theorem okLow {n : Int} {l : Prs} (h : n < 0) : okR n l = false := by unfold okR; rw [decide_eq_false_iff_not]; intro h'; omega
theorem okHigh {n : Int} {l : Prs} (h : 64 < n) : okR n l = false := by unfold okR; rw [decide_eq_false_iff_not]; intro h'; omega
/-- Both elements of the pair are below n. -/
def inR (n : Int) (p : Int × Int) : Prop := 0 ≤ p.1 ∧ p.1 < n ∧ 0 ≤ p.2 ∧ p.2 < n
theorem okAt {n : Int} {l : Prs} {k : Nat} (hk : k < l.length) (h : ¬ inR n l[k]) : okR n l = false := by
  unfold okR
  rw [decide_eq_false_iff_not]
  intro h'
  exact h (h'.2.2 l[k] (List.getElem_mem hk))
theorem okIff {n : Int} {l : Prs} : okR n l = true ↔ 0 ≤ n ∧ n ≤ 64 ∧ ∀ p ∈ l, inR n p := by unfold okR; rw [decide_eq_true_iff]; rfl
/-- The first k pairs are in order. -/
def okTo (n : Int) (l : Prs) (k : Nat) : Prop := ∀ p ∈ l.take k, inR n p
theorem okSucc {n : Int} {l : Prs} {k : Nat} (hk : k < l.length) (h : okTo n l k) (h' : inR n l[k]) : okTo n l (k + 1) := by
  intro p hp
  rw [List.take_succ_eq_append_getElem hk, List.mem_append] at hp
  rcases hp with hp | hp
  · exact h p hp
  · obtain rfl : p = l[k] := by simpa using hp
    exact h'
theorem okAll {n : Int} {l : Prs} {k : Nat} (h0 : 0 ≤ n) (h1 : n ≤ 64) (hk : l.length ≤ k) (h : okTo n l k) : okR n l = true := by
  rw [okIff]
  refine ⟨h0, h1, fun p hp => h p ?_⟩
  rwa [List.take_of_length_le hk]

set_option maxHeartbeats 1000000 in
theorem iValid (N : Int) (l : Prs) (n : Nat) (hn : l.length = n) (r : Bool) (hr : okR N l = r) (A : Option Addr) (c : Nat) (w : World) (ha : Rp w A c l) :
    Calls Tryz.prog 61 #[relV N A n c] w fun e w' => e = .returned (.bool r) ∧ Below w.heap.size w w' := by
  have hla := ha.le
  have hca := ha.max
  unfold maxLen at hca
  have HA := Lib.hid ha; clear ha
  have HR := Lib.hid hr; clear hr
  have HN := Lib.hid hn; clear hn
  by_cases h0 : N < 0
  · have HX := Lib.hid (HR.out.symm.trans (okLow h0))
    go_enter Tryz.func61, Tryz.ntmps61
    go_wp2
    go_ret
    exact ⟨retB HX.out.symm, belowAlloc _ _⟩
  by_cases h1 : 64 < N
  · have HX := Lib.hid (HR.out.symm.trans (okHigh h1))
    go_enter Tryz.func61, Tryz.ntmps61
    go_wp2
    go_ret
    exact ⟨retB HX.out.symm, belowAlloc _ _⟩
  go_enter Tryz.func61, Tryz.ntmps61
  go_wp2
  go_loopw [16] (fun i wr => ∃ k : Nat, k ≤ n ∧ i = .int .i64 k ∧ Hid (okTo N l k) ∧ wr.cell? ⟨w.heap.size, 0, none⟩ = some (.int .i64 N) ∧ Below w.heap.size w wr ∧ w.heap.size < wr.heap.size) (fun i _ => n - (intOf i).toNat)
  case atStart => exact ⟨0, Nat.zero_le _, rfl, Lib.hid (fun p hp => by simp at hp), by simp, belowAlloc _ _, by simp⟩
  case round =>
    obtain ⟨k, hk, rfl, HT, hcn, hb, hsz⟩ := hrel
    by_cases hlt : k < n
    · have hkl : k < l.length := by have := HN.out; omega
      obtain ⟨b, off, rfl, had, hc1, hc2⟩ := (HA.out.below hb).one hkl
      by_cases hin : inR N l[k]
      · have HX := Lib.hid (okSucc hkl HT.out hin)
        unfold inR at hin
        generalize l[k].1 = x at *
        generalize l[k].2 = y at *
        go_wp2
        all_goals (go_roundw; (case rel => exact ⟨k + 1, by omega, by go_num, HX, by rw [World.cell?_alloc_past _ _ _ hsz]; exact hcn, hb.alloc hb.size _, by simp; omega⟩); (case measure => simp [intOf]; omega))
      · have HX := Lib.hid (HR.out.symm.trans (okAt hkl hin))
        unfold inR at hin
        generalize l[k].1 = x at *
        generalize l[k].2 = y at *
        go_wp2
        all_goals first
          | (exfalso; omega)
          | (go_ret; exact ⟨retB HX.out.symm, hb.alloc hb.size _⟩)
    · have HX := Lib.hid (HR.out.symm.trans (okAll (by omega) (by omega) (by have := HN.out; omega) HT.out))
      go_wp2
      go_ret
      exact ⟨retB HX.out.symm, hb⟩
end Go.Proofs.YtpkagpobobmnfaaGreatDoor

namespace Go.Proofs.YtpkagpobobmnfaaGreatDoor
open Go.RowKit

/-- Which pairs a list contains. -/
def memP (l : Prs) (x y : Int) : Bool := decide ((x, y) ∈ l)
theorem memPSucc {l : Prs} {k : Nat} (hk : k < l.length) (x y : Int) : (memP (l.take k) x y || decide (x = l[k].1 ∧ y = l[k].2)) = memP (l.take (k + 1)) x y := by
  unfold memP
  rw [List.take_succ_eq_append_getElem hk, Bool.eq_iff_iff, Bool.or_eq_true, decide_eq_true_iff, decide_eq_true_iff, decide_eq_true_iff, List.mem_append, List.mem_singleton]
  constructor
  · rintro (h | ⟨h1, h2⟩)
    · exact .inl h
    · exact .inr (by rw [h1, h2])
  · rintro (h | h)
    · exact .inl h
    · exact .inr (by rw [← h]; exact ⟨rfl, rfl⟩)
/-- All numbers of the pairs are of the kind. -/
def wfL (l : Prs) : Prop := ∀ p ∈ l, wfP p.1 p.2
theorem wfAt {l : Prs} {k : Nat} (h : wfL l) (hk : k < l.length) : wfP l[k].1 l[k].2 := h _ (List.getElem_mem hk)
theorem okWf {n : Int} {l : Prs} (h : okR n l = true) : wfL l := fun p hp => by
  obtain ⟨_, h2, h3⟩ := okIff.1 h
  have := h3 p hp
  unfold inR at this
  exact ⟨wfSmall (by omega) (by omega), wfSmall (by omega) (by omega)⟩
/-- Block B holds a relation. -/
def BoxR (W : World) (B : Nat) (N : Int) (v : Value) : Prop := W.heap[B]? = some (.cells #[.int .i64 N, v] 28 (0, 0))
theorem BoxR.new (W : World) (N : Int) (v : Value) : BoxR (W.alloc (.cells #[.int .i64 N, v] 28)) W.heap.size N v := heap_alloc_new W _
theorem BoxR.lt {W : World} {B : Nat} {N : Int} {v : Value} (h : BoxR W B N v) : B < W.heap.size := (Array.getElem?_eq_some_iff.1 h).1
theorem BoxR.facts {W : World} {B : Nat} {N : Int} {v : Value} (h : BoxR W B N v) : W.cell? ⟨B, 0, none⟩ = some (.int .i64 N) ∧ W.cell? ⟨B, 1, none⟩ = some v ∧ W.frozen? ⟨B, 0, none⟩ = false ∧ W.frozen? ⟨B, 1, none⟩ = false := by
  refine ⟨?_, ?_, ?_, ?_⟩ <;> simp [World.cell?, World.frozen?, show W.heap[B]? = _ from h]
theorem BoxR.below {W W' : World} {B : Nat} {N : Int} {v : Value} (h : BoxR W B N v) (hb : Below W.heap.size W W') : BoxR W' B N v := (hb.block B h.lt).trans h
theorem BoxR.alloc {W : World} {B : Nat} {N : Int} {v : Value} (h : BoxR W B N v) (o : Obj) : BoxR (W.alloc o) B N v := h.below (belowAlloc W o)
theorem BoxR.stored {W : World} {B : Nat} {N : Int} {v : Value} (h : BoxR W B N v) (N' : Int) (v' : Value) : BoxR ((W.setCell ⟨B, 0, none⟩ (.int .i64 N')).setCell ⟨B, 1, none⟩ v') B N' v' := by
  have hlt : B < W.heap.size := h.lt
  have h' : W.heap[B]? = some (.cells #[.int .i64 N, v] 28 (0, 0)) := h
  show ((W.setCell ⟨B, 0, none⟩ (.int .i64 N')).setCell ⟨B, 1, none⟩ v').heap[B]? = _
  simp [World.setCell, Array.getElem?_modify, h']
theorem BoxR.stored1 {W : World} {B : Nat} {N : Int} {v : Value} (h : BoxR W B N v) (v' : Value) : BoxR (W.setCell ⟨B, 1, none⟩ v') B N v' := by
  have h' : W.heap[B]? = some (.cells #[.int .i64 N, v] 28 (0, 0)) := h
  show (W.setCell ⟨B, 1, none⟩ v').heap[B]? = _
  simp [World.setCell, Array.getElem?_modify, h']
/-- A slice of pairs does not lie in a relation's own block. -/
theorem Rp.apart {W : World} {A : Option Addr} {c : Nat} {l : Prs} (h : Rp W A c l) {B : Nat} {N : Int} {A' : Option Addr} {n c' : Nat} (hB : BoxR W B N (.slice A' n c')) : ∀ ad, A = some ad → 0 < l.length → ad.block ≠ B := by
  intro ad e hl hb
  obtain ⟨b, off, e', _, hc⟩ := h.at_ hl
  rw [e] at e'
  injection e' with e'
  subst e'
  have hb : b = B := hb
  subst hb
  obtain ⟨h0, h1⟩ := hc 0 hl
  have h' : W.heap[b]? = some (.cells #[.int .i64 N, .slice A' n c'] 28 (0, 0)) := hB
  simp only [World.cell?, h', Nat.zero_mul, Nat.add_zero] at h0 h1
  rcases (show off = 0 ∨ off = 1 ∨ 2 ≤ off by omega) with rfl | rfl | ho
  · simp at h1
  · simp at h0
  · simp [ho] at h0
theorem Chg.setCell (w : World) (p : Addr) (v : Value) : Chg w (w.setCell p v) (fun g => g ≠ p.block) :=
  ⟨rfl, rfl, rfl, by simp, fun k _ hk => heap_setCell_other w p k v hk⟩
/-- A slice of pairs outlives the store of a result. -/
theorem Rp.stored {W : World} {A : Option Addr} {c : Nat} {l : Prs} (h : Rp W A c l) {B : Nat} {N : Int} {A' : Option Addr} {n c' : Nat} (hB : BoxR W B N (.slice A' n c')) (u v : Value) : Rp ((W.setCell ⟨B, 0, none⟩ u).setCell ⟨B, 1, none⟩ v) A c l :=
  h.chg ((Chg.setCell W ⟨B, 0, none⟩ u).trans (Chg.setCell _ ⟨B, 1, none⟩ v) fun _ _ h => h) (h.apart hB)
theorem Rp.stored1 {W : World} {A : Option Addr} {c : Nat} {l : Prs} (h : Rp W A c l) {B : Nat} {N : Int} {A' : Option Addr} {n c' : Nat} (hB : BoxR W B N (.slice A' n c')) (v : Value) : Rp (W.setCell ⟨B, 1, none⟩ v) A c l :=
  h.chg (Chg.setCell W ⟨B, 1, none⟩ v) (h.apart hB)
theorem infoRel : (Tryz.prog.info? 28).map (·.size) = some 2 := by kernel_rfl
theorem ResR {W : World} {B : Nat} {N : Int} {v : Value} (h : BoxR W B N v) {fn : Func} {p : Tmp} (hf : fn.results = #[.cell p 28]) (tmps : Array Value) (hp : tmps.getD p undef = .pointer (some ⟨B, 0, none⟩)) : (results fn tmps).run Tryz.prog W = .ok (.agg #[.int .i64 N, v]) W :=
  results_cell_row hf tmps W B 28 _ (0, 0) _ hp h Tryz.underlying28 rfl infoRel
theorem twoBoxes (w : World) (N M : Int) (u v : Value) : ∃ W, (w.alloc (.cells #[.int .i64 N, u] 28)).alloc (.cells #[.int .i64 M, v] 28) = W ∧ BoxR W w.heap.size N u ∧ BoxR W (w.heap.size + 1) M v ∧ Below w.heap.size w W ∧ W.heap.size = w.heap.size + 2 := by
  refine ⟨_, rfl, (BoxR.new w N u).alloc _, ?_, (belowAlloc w _).alloc (by simp) _, by simp⟩
  have h := BoxR.new (w.alloc (.cells #[.int .i64 N, u] 28)) M v
  rwa [World.size_alloc] at h

theorem belowSet {B : Nat} {a b : World} (h : Below B a b) (p : Addr) (v : Value) (hp : B ≤ p.block) : Below B a (b.setCell p v) :=
  ⟨h.os, h.tape, h.output, by simpa using h.size, fun k hk => (heap_setCell_other b p k v (by omega)).trans (h.block k hk)⟩
/-- A slice of integers, cell by cell at a written-out address. -/
theorem Rd.flat {w : World} {A : Option Addr} {c : Nat} {l : List Int} (h : Rd w A c l) (hl : 0 < l.length) : ∃ b off, A = some ⟨b, off, none⟩ ∧ b < w.heap.size ∧ ∀ j (hj : j < l.length), w.cell? ⟨b, off + j, none⟩ = some (.int .i64 l[j]) := by
  obtain ⟨⟨b, off, spot⟩, e, hb, hc⟩ := Rds.at_ h (by simpa using hl)
  have h0 := hc 0 (.int .i64 l[0]) (by simp [List.getElem?_eq_getElem hl])
  have hspot : spot = none := by simpa [Addr.add] using World.cell?_spot h0
  subst hspot
  refine ⟨b, off, e, hb, fun j hj => ?_⟩
  have := hc j (.int .i64 l[j]) (by simp [List.getElem?_eq_getElem hj])
  rwa [Addr.add_lit] at this
end Go.Proofs.YtpkagpobobmnfaaGreatDoor

namespace Go.Proofs.YtpkagpobobmnfaaGreatDoor
open Go.RowKit

/-- E with a. -/
def with_ (E : Nat → Bool) (a : Nat) (x : Nat) : Bool := E x || decide (x = a)
theorem withIff {E : Nat → Bool} {a x : Nat} : with_ E a x = true ↔ E x = true ∨ x = a := by unfold with_; rw [Bool.or_eq_true, decide_eq_true_iff]
/-- The row of Booleans of E. -/
def bl (n : Nat) (E : Nat → Bool) : List Bool := (List.range n).map E
theorem blLen (n : Nat) (E : Nat → Bool) : (bl n E).length = n := by simp [bl]
theorem blAt {n : Nat} {E : Nat → Bool} {i : Nat} (h : i < n) : (bl n E)[i]? = some (E i) := by simp [bl, h]
theorem blSet (n : Nat) (E : Nat → Bool) (a : Nat) : (bl n E).set a true = bl n (with_ E a) := by
  refine List.ext_getElem? fun i => ?_
  by_cases hi : i < n
  · rw [blAt hi, List.getElem?_set]
    by_cases e : a = i
    · subst e
      rw [if_pos rfl, if_pos (by rw [blLen]; exact hi)]
      congr 1
      exact (withIff.2 (.inr rfl)).symm
    · rw [if_neg e, blAt hi]
      congr 1
      unfold with_
      rw [decide_eq_false (Ne.symm e), Bool.or_false]
  · rw [List.getElem?_eq_none (by rw [List.length_set, blLen]; omega), List.getElem?_eq_none (by rw [blLen]; omega)]
theorem blFalse (n : Nat) : bl n (fun _ => false) = List.replicate n false := by
  refine List.ext_getElem? fun i => ?_
  by_cases hi : i < n
  · rw [blAt hi, List.getElem?_replicate, if_pos hi]
  · rw [List.getElem?_eq_none (by rw [blLen]; omega), List.getElem?_eq_none (by simp; omega)]
theorem infoBool : (Tryz.prog.info? 4).map (fun i => (i.zero, i.size, i.bytes)) = some (some (.bool false), 1, 1) := by kernel_rfl
/-- Block g is a row of n Booleans: those of E. -/
def RowB (w : World) (g n : Nat) (E : Nat → Bool) : Prop := w.ownsRow 0 4 1 (.slice (some ⟨g, 0, none⟩) n n) n ((bl n E).map Value.bool)
section
variable {w w' : World} {g n : Nat} {E : Nat → Bool}
theorem RowB.lt (h : RowB w g n E) : g < w.heap.size := (World.ownsRow.lt h g rfl).2
theorem RowB.chg {F : Nat → Prop} (h : RowB w g n E) (hc : Chg w w' F) (hF : F g) : RowB w' g n E := ownChg h hc fun k hk => by
  have : g = k := by simpa [Value.ownBlock] using hk
  exact this ▸ hF
theorem RowB.cell (h : RowB w g n E) {i : Nat} (hi : i < n) : w.cell? ⟨g, i, none⟩ = some (.bool (E i)) := by
  unfold RowB at h
  rw [World.ownsRow.cellAt h i (by omega), List.getElem?_map, blAt hi]; rfl
theorem RowB.frozen (h : RowB w g n E) (i : Nat) : w.frozen? ⟨g, i, none⟩ = false := World.ownsRow.frozenAt h i
theorem RowB.set (h : RowB w g n E) (i : Nat) : RowB (w.setCell ⟨g, i, none⟩ (.bool true)) g n (with_ E i) := by
  have := (World.ownsRow.stored h i (.bool true)).1
  unfold RowB
  rw [← blSet, List.map_set]
  exact this
theorem RowB.drew (h : RowB w g n E) : RowB w.drew g n E := h
end
/-- The row of bools as it is made. -/
theorem RowB.made {w w1 : World} {n : Nat} (o1 : w1.ownsRow 0 4 1 (.slice (some ⟨w.heap.size, 0, none⟩) n n) n (madeCells (Value.bool false).cells (n * 1)).toList) : RowB w1 w.heap.size n (fun _ => false) := by
  have e : (madeCells (Value.bool false).cells (n * 1)).toList = (List.replicate n false).map Value.bool := by
    rw [Nat.mul_one, List.map_replicate]; exact toList_madeCells_one _ _
  rw [e, ← blFalse] at o1
  exact o1

/-- E with v at a. -/
def updB (E : Nat → Bool) (a : Nat) (v : Bool) (x : Nat) : Bool := if x = a then v else E x
theorem blUpd (n : Nat) (E : Nat → Bool) (a : Nat) (v : Bool) : (bl n E).set a v = bl n (updB E a v) := by
  refine List.ext_getElem? fun i => ?_
  by_cases hi : i < n
  · rw [blAt hi, List.getElem?_set]
    unfold updB
    by_cases e : a = i
    · subst e
      rw [if_pos rfl, if_pos (by rw [blLen]; exact hi), if_pos rfl]
    · rw [if_neg e, blAt hi, if_neg (Ne.symm e)]
  · rw [List.getElem?_eq_none (by rw [List.length_set, blLen]; omega), List.getElem?_eq_none (by rw [blLen]; omega)]
theorem RowB.put {w : World} {g n : Nat} {E : Nat → Bool} (h : RowB w g n E) (i : Nat) (v : Bool) : RowB (w.setCell ⟨g, i, none⟩ (.bool v)) g n (updB E i v) := by
  have := (World.ownsRow.stored h i (.bool v)).1
  unfold RowB
  rw [← blUpd, List.map_set]
  exact this
theorem RowB.congr {w : World} {g n : Nat} {E F : Nat → Bool} (h : RowB w g n E) (e : ∀ x, x < n → E x = F x) : RowB w g n F := by
  have e2 : bl n E = bl n F := List.map_congr_left fun x hx => e x (List.mem_range.1 hx)
  unfold RowB
  rw [← e2]
  exact h
end Go.Proofs.YtpkagpobobmnfaaGreatDoor

namespace Go.Proofs.YtpkagpobobmnfaaGreatDoor

theorem rowSnoc (f : Nat → Nat → Bool) (a : Nat) : ∀ k b, rowP f a b (k + 1) = rowP f a b k ++ (if f a (b + k) then [((a : Int), ((b + k : Nat) : Int))] else [])
  | 0, b => by simp [rowP]
  | k + 1, b => by
    rw [rowP, rowSnoc f a k (b + 1), rowP, ← List.append_assoc, show b + 1 + k = b + (k + 1) by omega]
theorem nrmSnoc (f : Nat → Nat → Bool) (n : Nat) : ∀ k a, nrmFrom f n a (k + 1) = nrmFrom f n a k ++ rowP f (a + k) 0 n
  | 0, a => by simp [nrmFrom]
  | k + 1, a => by
    rw [nrmFrom, nrmSnoc f n k (a + 1), nrmFrom, ← List.append_assoc, show a + 1 + k = a + (k + 1) by omega]
/-- The pairs ahead of the place (a, b). -/
def listTo (f : Nat → Nat → Bool) (n a b : Nat) : Prs := nrmFrom f n 0 a ++ rowP f a 0 b
theorem listYes {f : Nat → Nat → Bool} {n a b : Nat} (h : f a b = true) : listTo f n a (b + 1) = listTo f n a b ++ [((a : Int), (b : Int))] := by
  unfold listTo
  rw [rowSnoc, Nat.zero_add, if_pos h, List.append_assoc]
theorem listNo {f : Nat → Nat → Bool} {n a b : Nat} (h : f a b = false) : listTo f n a (b + 1) = listTo f n a b := by
  unfold listTo
  rw [rowSnoc, Nat.zero_add, if_neg (by rw [h]; simp), List.append_nil]
theorem listRow {f : Nat → Nat → Bool} {n a : Nat} : listTo f n a n = listTo f n (a + 1) 0 := by
  unfold listTo
  rw [nrmSnoc, Nat.zero_add]
  simp [rowP]
theorem listEnd {f : Nat → Nat → Bool} {n : Nat} : listTo f n n 0 = nrm n f := by simp [listTo, nrm, rowP]
theorem listLen {f : Nat → Nat → Bool} {n a b : Nat} (ha : a ≤ n) (hb : b ≤ n) : (listTo f n a b).length ≤ n * n + n := by
  unfold listTo
  rw [List.length_append]
  have h1 := lenNrmFrom f n a 0
  have h2 := lenRow f a b 0
  have h3 := Nat.mul_le_mul_right n ha
  omega

/-! Composition, place by place. -/
/-! Warshall's table, place by place. -/
/-! The reduction, place by place. -/
end Go.Proofs.YtpkagpobobmnfaaGreatDoor

namespace Go.Proofs.YtpkagpobobmnfaaGreatDoor
open Go.RowKit

/-- A relation that is valid lies on 0 to 64. -/
theorem okNat {N : Int} {l : Prs} (h : okR N l = true) : ∃ n : Nat, N = n ∧ n ≤ 64 := by
  obtain ⟨h1, h2, _⟩ := okIff.1 h
  exact ⟨N.toNat, by omega, by omega⟩
/-- The relation's normal form, or nothing where it is not valid. -/
def nrmN (N : Int) (l : Prs) : Int := if okR N l then N else 0
def nrmL (N : Int) (l : Prs) : Prs := if okR N l then nrm N.toNat (hasP l) else []
def sameR (N : Int) (l : Prs) (M : Int) (m : Prs) : Bool := decide (N = M) && decide (l = m)
theorem sameIff {N M : Int} {l m : Prs} : sameR N l M m = true ↔ N = M ∧ l = m := by unfold sameR; rw [Bool.and_eq_true, decide_eq_true_iff, decide_eq_true_iff]
theorem BoxR.others {W : World} {B B' : Nat} {N : Int} {v : Value} (h : BoxR W B N v) (hne : B ≠ B') (a b : Value) : BoxR ((W.setCell ⟨B', 0, none⟩ a).setCell ⟨B', 1, none⟩ b) B N v :=
  ((heap_setCell_other _ ⟨B', 1, none⟩ B b hne).trans (heap_setCell_other W ⟨B', 0, none⟩ B a hne)).trans h
theorem keepR {W : World} {B B' : Nat} {N : Int} {v : Value} (h : BoxR W B N v) (hne : B ≠ B') (a b : Value) : ((W.setCell ⟨B', 0, none⟩ a).setCell ⟨B', 1, none⟩ b).cell? ⟨B, 0, none⟩ = some (.int .i64 N) ∧ ((W.setCell ⟨B', 0, none⟩ a).setCell ⟨B', 1, none⟩ b).cell? ⟨B, 1, none⟩ = some v :=
  ⟨(h.others hne a b).facts.1, (h.others hne a b).facts.2.1⟩
end Go.Proofs.YtpkagpobobmnfaaGreatDoor
