/-
  The law ProgramReaches holds: for every program it returns true and leaves its argument as it was, where the listed variables are laid as the program's text lays them.
-/
import Derived.Test.YtncpnkincdjgfaaDoorPgP
import Derived.Test.YtncpnkincdjgfaaDoorPgS
import Derived.Test.YtncpnkincdjgfaaDoorChg
import Derived.Test.YtncpnkincdjgfaaDoorOwnI
import Derived.Test.YtncpnkincdjgfaaDoorPkC
import Derived.BigQuiet
import Derived.Deep.OwnRows
import Derived.Test.YtncpnkincdjgfaaDoorInsV
import Derived.Test.YtncpnkincdjgfaaDoorOpen
import Derived.Test.YtncpnkincdjgfaaDoorCards
import Derived.SevenTiedAt
import Derived.ShutString
import Derived.ChangeMaps5
import Derived.Carry
namespace Go.Proofs.YtncpnkincdjgfaaDoor
open Go Go.RowKit

theorem filterLe {α : Type} {P Q : α → Bool} (h : ∀ x, P x = true → Q x = true) : ∀ l : List α, (l.filter P).length ≤ (l.filter Q).length
  | [] => Nat.le_refl _
  | x :: t => by
    have ih := filterLe h t
    by_cases hp : P x = true
    · rw [List.filter_cons_of_pos hp, List.filter_cons_of_pos (h x hp), List.length_cons, List.length_cons]
      omega
    · rw [List.filter_cons_of_neg hp]
      by_cases hq : Q x = true
      · rw [List.filter_cons_of_pos hq, List.length_cons]
        omega
      · rw [List.filter_cons_of_neg hq]
        exact ih
theorem filterLt {α : Type} {P Q : α → Bool} (h : ∀ x, P x = true → Q x = true) : ∀ l : List α, (∃ x ∈ l, Q x = true ∧ ¬ P x = true) → (l.filter P).length < (l.filter Q).length
  | [], ⟨x, hx, _⟩ => by cases hx
  | x :: t, ⟨y, hy, hq, hp⟩ => by
    rcases List.mem_cons.1 hy with rfl | hy
    · rw [List.filter_cons_of_neg hp, List.filter_cons_of_pos hq, List.length_cons]
      have := filterLe h t
      omega
    · have ih := filterLt h t ⟨y, hy, hq, hp⟩
      by_cases hpx : P x = true
      · rw [List.filter_cons_of_pos hpx, List.filter_cons_of_pos (h x hpx), List.length_cons, List.length_cons]
        omega
      · rw [List.filter_cons_of_neg hpx]
        by_cases hqx : Q x = true
        · rw [List.filter_cons_of_pos hqx, List.length_cons]
          omega
        · rw [List.filter_cons_of_neg hqx]
          exact ih
theorem rchMono {p : Prg} {f k : Nat} (h : p.rchN k f) : ∀ j, p.rchN (k + j) f
  | 0 => h
  | j + 1 => .inl (rchMono h j)
theorem rchStill {p : Prg} {k : Nat} (h : ∀ f, p.rchN (k + 1) f → p.rchN k f) : ∀ (j f : Nat), p.rchN (k + j) f → p.rchN k f
  | 0, _, hf => hf
  | j + 1, f, hf => by
    rcases hf with hf | ⟨e, he, hk, hs⟩
    · exact rchStill h j f hf
    · exact h f (.inr ⟨e, he, rchStill h j e hk, hs⟩)
open Classical in
noncomputable def rchC (p : Prg) (k : Nat) : Nat := ((List.range p.funcs.length).filter fun f => decide (p.rchN k f)).length
open Classical in
theorem rchCle (p : Prg) (k : Nat) : rchC p k ≤ p.funcs.length := by
  unfold rchC
  have := List.length_filter_le (fun f => decide (p.rchN k f)) (List.range p.funcs.length)
  rwa [List.length_range] at this
open Classical in
theorem rchClt {p : Prg} (hc : p.chk.1 = 0) {k : Nat} (h : ¬ ∀ f, p.rchN (k + 1) f → p.rchN k f) : rchC p k < rchC p (k + 1) := by
  rw [Classical.not_forall] at h
  obtain ⟨f, hf⟩ := h
  rw [Classical.not_imp] at hf
  unfold rchC
  refine filterLt (fun x hx => ?_) _ ⟨f, ?_, ?_, ?_⟩
  · rw [decide_eq_true_eq] at hx ⊢
    exact .inl hx
  · rw [List.mem_range]
    exact rchBound hc ⟨_, hf.1⟩
  · rw [decide_eq_true_eq]
    exact hf.1
  · rw [decide_eq_true_eq]
    exact hf.2
/-- What can be run at all is reached in as many steps as there are functions. -/
theorem rchAllN {p : Prg} (hc : p.chk.1 = 0) {f : Nat} (hf : p.rch f) : p.rchN p.funcs.length f := by
  have hex : ∃ k, k ≤ p.funcs.length ∧ ∀ f, p.rchN (k + 1) f → p.rchN k f := by
    refine Classical.byContradiction fun hno => ?_
    have key : ∀ k, k ≤ p.funcs.length + 1 → k ≤ rchC p k := fun k => by
      induction k with
      | zero => exact fun _ => Nat.zero_le _
      | succ k ih =>
        intro hk
        have h1 := ih (by omega)
        have h2 := rchClt hc (k := k) fun h => hno ⟨k, by omega, h⟩
        omega
    have h1 := key _ (Nat.le_refl _)
    have h2 := rchCle p (p.funcs.length + 1)
    omega
  obtain ⟨k, hk, hst⟩ := hex
  obtain ⟨j, hj⟩ := hf
  have h1 : p.rchN k f := by
    rcases Nat.le_total j k with h | h
    · have := rchMono hj (k - j)
      rwa [Nat.add_sub_cancel' h] at this
    · refine rchStill hst (j - k) f ?_
      rwa [Nat.add_sub_cancel' h]
  have := rchMono h1 (p.funcs.length - k)
  rwa [Nat.add_sub_cancel' hk] at this
end Go.Proofs.YtncpnkincdjgfaaDoor

namespace Go.Proofs.YtncpnkincdjgfaaDoor
open Go Go.RowKit

set_option maxHeartbeats 1000000 in
theorem iReachBad {a : PgA} {p : Prg} (w : World) (hP : PgW w a p) (hW : p.Wf) (hT : InsT w) (hN : Nm w) (hc : p.chk.1 ≠ 0) :
    Calls Tryd.prog 14 #[a.val] w fun e w' => e = .returned (.tuple #[.slice none 0 0, .int .i64 p.chk.1]) ∧ Below w.heap.size w w' := by
  have HC := Lib.hid (fun X (hX : Below w.heap.size w X) => iCheckP X (hP.below hX) hW (hT.below hX) (hN.below hX))
  generalize p.chk = c at HC hc ⊢
  obtain ⟨x, y, z⟩ := c
  simp only [err3] at HC hc ⊢
  have hx : (x != 0) = true := by simpa using hc
  obtain ⟨A1, n1, c1, A2, n2, c2, A3, n3, c3, A4, n4, c4, A5, n5, c5⟩ := a
  simp only [PgA.val, PgA.fs] at *
  have hbW := belowAlloc w (.cells #[.slice A1 n1 c1, .slice A2 n2 c2, .slice A3 n3 c3, .slice A4 n4 c4, .slice A5 n5 c5] 27)
  have HB := Lib.hid hbW
  clear hP hW hT hN hc
  go_enter Tryd.func14, Tryd.ntmps14
  go_wp2_with fail
  refine (HC.out _ HB.out).mono ?_
  rintro e w2 ⟨rfl, b2⟩
  go_wp2
  go_ret2
  exact ⟨rfl, belowThen HB.out b2⟩
end Go.Proofs.YtncpnkincdjgfaaDoor

namespace Go.Proofs.YtncpnkincdjgfaaDoor
open Go.RowKit

/-- E with a. -/
def with_ (E : Nat → Bool) (a : Nat) (x : Nat) : Bool := E x || decide (x = a)
theorem withIff {E : Nat → Bool} {a x : Nat} : with_ E a x = true ↔ E x = true ∨ x = a := by unfold with_; rw [Bool.or_eq_true, decide_eq_true_iff]
/-- The row of Booleans of E. -/
def bl (n : Nat) (E : Nat → Bool) : List Bool := (List.range n).map E
theorem blLen (n : Nat) (E : Nat → Bool) : (bl n E).length = n := by simp [bl]
theorem blAt {n : Nat} {E : Nat → Bool} {i : Nat} (h : i < n) : (bl n E)[i]? = some (E i) := by simp [bl, h]
theorem blSet (n : Nat) (E : Nat → Bool) (a : Nat) : (bl n E).set a true = bl n (with_ E a) := by
  refine List.ext_getElem? fun i => ?_
  by_cases hi : i < n
  · rw [blAt hi, List.getElem?_set]
    by_cases e : a = i
    · subst e
      rw [if_pos rfl, if_pos (by rw [blLen]; exact hi)]
      congr 1
      exact (withIff.2 (.inr rfl)).symm
    · rw [if_neg e, blAt hi]
      congr 1
      unfold with_
      rw [decide_eq_false (Ne.symm e), Bool.or_false]
  · rw [List.getElem?_eq_none (by rw [List.length_set, blLen]; omega), List.getElem?_eq_none (by rw [blLen]; omega)]
theorem blFalse (n : Nat) : bl n (fun _ => false) = List.replicate n false := by
  refine List.ext_getElem? fun i => ?_
  by_cases hi : i < n
  · rw [blAt hi, List.getElem?_replicate, if_pos hi]
  · rw [List.getElem?_eq_none (by rw [blLen]; omega), List.getElem?_eq_none (by simp; omega)]
theorem infoBool : (Tryd.prog.info? 4).map (fun i => (i.zero, i.size, i.bytes)) = some (some (.bool false), 1, 1) := by kernel_rfl
/-- Block g is a row of n Booleans: those of E. -/
def RowB (w : World) (g n : Nat) (E : Nat → Bool) : Prop := w.ownsRow 0 4 1 (.slice (some ⟨g, 0, none⟩) n n) n ((bl n E).map Value.bool)
section
variable {w w' : World} {g n : Nat} {E : Nat → Bool}
theorem RowB.lt (h : RowB w g n E) : g < w.heap.size := (World.ownsRow.lt h g rfl).2
theorem RowB.chg {F : Nat → Prop} (h : RowB w g n E) (hc : Chg w w' F) (hF : F g) : RowB w' g n E := ownChg h hc fun k hk => by
  have : g = k := by simpa [Value.ownBlock] using hk
  exact this ▸ hF
theorem RowB.cell (h : RowB w g n E) {i : Nat} (hi : i < n) : w.cell? ⟨g, i, none⟩ = some (.bool (E i)) := by
  unfold RowB at h
  rw [World.ownsRow.cellAt h i (by omega), List.getElem?_map, blAt hi]; rfl
theorem RowB.frozen (h : RowB w g n E) (i : Nat) : w.frozen? ⟨g, i, none⟩ = false := World.ownsRow.frozenAt h i
theorem RowB.set (h : RowB w g n E) (i : Nat) : RowB (w.setCell ⟨g, i, none⟩ (.bool true)) g n (with_ E i) := by
  have := (World.ownsRow.stored h i (.bool true)).1
  unfold RowB
  rw [← blSet, List.map_set]
  exact this
theorem RowB.drew (h : RowB w g n E) : RowB w.drew g n E := h
theorem RowB.bools (h : RowB w g n E) {a : Addr} {u : Value} (hu : w.cell? a = some u) (hb : ∀ b, u ≠ .bool b) : a.block ≠ g := by
  intro e
  rcases h.2 with ⟨h2, _⟩ | ⟨k, cap, cur, hv, _, hg, hn, hm, hs, ht⟩
  · cases h2
  · injection hv with e1 _ e3
    injection e1 with e1
    injection e1 with e1
    subst e1; subst e3
    unfold World.cell? at hu
    rw [e, hg] at hu
    simp only at hu
    split at hu
    · cases hu
    · have h1 : cur.toList[a.off]? = some u := by simpa using hu
      have h2 : a.off < cur.toList.length := (List.getElem?_eq_some_iff.1 h1).1
      rw [List.take_of_length_le (by rw [Array.length_toList]; omega)] at ht
      rw [ht, List.getElem?_map] at h1
      cases e2 : (bl n E)[a.off]? with
      | none => rw [e2] at h1; cases h1
      | some b => rw [e2] at h1; exact hb b (by simpa using h1.symm)
end
/-- The row of bools as it is made. -/
theorem RowB.made {w w1 : World} {n : Nat} (o1 : w1.ownsRow 0 4 1 (.slice (some ⟨w.heap.size, 0, none⟩) n n) n (madeCells (Value.bool false).cells (n * 1)).toList) : RowB w1 w.heap.size n (fun _ => false) := by
  have e : (madeCells (Value.bool false).cells (n * 1)).toList = (List.replicate n false).map Value.bool := by
    rw [Nat.mul_one, List.map_replicate]; exact toList_madeCells_one _ _
  rw [e, ← blFalse] at o1
  exact o1

/-- E with v at a. -/
def updB (E : Nat → Bool) (a : Nat) (v : Bool) (x : Nat) : Bool := if x = a then v else E x
theorem blUpd (n : Nat) (E : Nat → Bool) (a : Nat) (v : Bool) : (bl n E).set a v = bl n (updB E a v) := by
  refine List.ext_getElem? fun i => ?_
  by_cases hi : i < n
  · rw [blAt hi, List.getElem?_set]
    unfold updB
    by_cases e : a = i
    · subst e
      rw [if_pos rfl, if_pos (by rw [blLen]; exact hi), if_pos rfl]
    · rw [if_neg e, blAt hi, if_neg (Ne.symm e)]
  · rw [List.getElem?_eq_none (by rw [List.length_set, blLen]; omega), List.getElem?_eq_none (by rw [blLen]; omega)]
theorem RowB.put {w : World} {g n : Nat} {E : Nat → Bool} (h : RowB w g n E) (i : Nat) (v : Bool) : RowB (w.setCell ⟨g, i, none⟩ (.bool v)) g n (updB E i v) := by
  have := (World.ownsRow.stored h i (.bool v)).1
  unfold RowB
  rw [← blUpd, List.map_set]
  exact this
theorem RowB.congr {w : World} {g n : Nat} {E F : Nat → Bool} (h : RowB w g n E) (e : ∀ x, x < n → E x = F x) : RowB w g n F := by
  have e2 : bl n E = bl n F := List.map_congr_left fun x hx => e x (List.mem_range.1 hx)
  unfold RowB
  rw [← e2]
  exact h
theorem rowBNew {w : World} {g M : Nat} (h : w.heap[g]? = some (.cells (madeCells #[.bool false] M) 4 (0, 0))) (hM : M ≤ maxLen) : RowB w g M (fun _ => false) := by
  have e : (madeCells #[Value.bool false] M).toList = (List.replicate M false).map Value.bool := by rw [List.map_replicate]; exact toList_madeCells_one _ _
  have hs : (madeCells #[Value.bool false] M).size = M := by rw [← Array.length_toList, e]; simp
  refine ⟨by simp [blLen], .inr ⟨g, M, _, rfl, Nat.zero_le _, h, Nat.le_refl _, hM, by omega, ?_⟩⟩
  rw [List.take_of_length_le (by rw [Array.length_toList]; omega), e, blFalse]
end Go.Proofs.YtncpnkincdjgfaaDoor

namespace Go.Proofs.YtncpnkincdjgfaaDoor
open Go Go.RowKit

def SubR (p : Prg) (E : Nat → Bool) : Prop := ∀ f, E f = true → p.rch f
def IniR (p : Prg) (i : Nat) (E : Nat → Bool) : Prop := SubR p E ∧ ∀ j (hj : j < p.thr.length), j < i → ∀ f : Nat, p.thr[j].1 = (f : Int) → E f = true
def RndR (p : Prg) (r : Nat) (E : Nat → Bool) : Prop := SubR p E ∧ ∀ x, p.rchN r x → E x = true
def InR (p : Prg) (r f g : Nat) (E : Nat → Bool) : Prop := RndR p r E ∧ (∀ e (he : e < p.funcs.length), e < f → p.rchN r e → ∀ x, x < p.funcs.length → spw (p.funcs[e]).2 (x : Int) = true → E x = true) ∧
  (∀ hf : f < p.funcs.length, p.rchN r f → ∀ x, x < g → spw (p.funcs[f]).2 (x : Int) = true → E x = true)
theorem iniNext {p : Prg} {i : Nat} {E : Nat → Bool} (h : IniR p i E) (hi : i < p.thr.length) {f : Nat} (hf : p.thr[i].1 = (f : Int)) : IniR p (i + 1) (with_ E f) := by
  refine ⟨fun x hx => ?_, fun j hj hlt x hx => ?_⟩
  · rcases withIff.1 hx with h' | rfl
    · exact h.1 x h'
    · exact Prg.rchStart (List.getElem_mem hi) hf
  · rw [withIff]
    rcases Nat.lt_or_ge j i with h' | h'
    · exact .inl (h.2 j hj h' x hx)
    · have e : j = i := by omega
      subst e
      rw [hf] at hx
      exact .inr (by omega)
theorem iniDone {p : Prg} {i : Nat} {E : Nat → Bool} (h : IniR p i E) (hi : p.thr.length ≤ i) : RndR p 0 E := by
  refine ⟨h.1, fun x hx => ?_⟩
  obtain ⟨s, hs, e⟩ := hx
  obtain ⟨j, hj, rfl⟩ := List.getElem_of_mem hs
  exact h.2 j hj (by omega) x e
theorem inStart {p : Prg} {r : Nat} {E : Nat → Bool} (h : RndR p r E) : InR p r 0 0 E := ⟨h, fun e _ hlt => by omega, fun _ _ x hx => by omega⟩
theorem inNo {p : Prg} {r f g : Nat} {E : Nat → Bool} (h : InR p r f g E) (hE : E f = false) : InR p r f (g + 1) E :=
  ⟨h.1, h.2.1, fun _ hr => by have := h.1.2 f hr; rw [hE] at this; cases this⟩
theorem inSkip {p : Prg} {r f g : Nat} {E : Nat → Bool} (h : InR p r f g E) (hf : f < p.funcs.length) (hs : spw (p.funcs[f]).2 (g : Int) = false) : InR p r f (g + 1) E :=
  ⟨h.1, h.2.1, fun hf hr x hx hsx => by
    rcases Nat.lt_or_ge x g with h' | h'
    · exact h.2.2 hf hr x h' hsx
    · have e : x = g := by omega
      subst e
      rw [hs] at hsx; cases hsx⟩
theorem inMark {p : Prg} {r f g : Nat} {E : Nat → Bool} (h : InR p r f g E) (hf : f < p.funcs.length) (hE : E f = true) (hs : spw (p.funcs[f]).2 (g : Int) = true) : InR p r f (g + 1) (with_ E g) := by
  refine ⟨⟨fun x hx => ?_, fun x hx => withIff.2 (.inl (h.1.2 x hx))⟩, fun e he hlt hr x hx hsx => withIff.2 (.inl (h.2.1 e he hlt hr x hx hsx)), fun hf hr x hx hsx => ?_⟩
  · rcases withIff.1 hx with h' | rfl
    · exact h.1.1 x h'
    · exact Prg.rchStep (h.1.1 f hE) hf hs
  · rw [withIff]
    rcases Nat.lt_or_ge x g with h' | h'
    · exact .inl (h.2.2 hf hr x h' hsx)
    · exact .inr (by omega)
theorem inRow {p : Prg} {r f g : Nat} {E : Nat → Bool} (h : InR p r f g E) (hg : p.funcs.length ≤ g) : InR p r (f + 1) 0 E := by
  refine ⟨h.1, fun e he hlt hr x hx hsx => ?_, fun _ _ x hx => by omega⟩
  rcases Nat.lt_or_ge e f with h' | h'
  · exact h.2.1 e he h' hr x hx hsx
  · have e2 : e = f := by omega
    subst e2
    exact h.2.2 he hr x (by omega) hsx
theorem inDone {p : Prg} (hc : p.chk.1 = 0) {r f g : Nat} {E : Nat → Bool} (h : InR p r f g E) (hf : p.funcs.length ≤ f) : RndR p (r + 1) E := by
  refine ⟨h.1.1, fun x hx => ?_⟩
  rcases id hx with hx' | ⟨e, he, hr, hs⟩
  · exact h.1.2 x hx'
  · exact h.2.1 e he (by omega) hr x (rchBound hc ⟨r + 1, hx⟩) hs
/-- The marked functions below k, in order. -/
def outE (E : Nat → Bool) (k : Nat) : List Int := ((List.range k).filter E).map fun (x : Nat) => (x : Int)
theorem outZero (E : Nat → Bool) : outE E 0 = [] := rfl
theorem outYes {E : Nat → Bool} {k : Nat} (h : E k = true) : outE E (k + 1) = outE E k ++ [(k : Int)] := by
  unfold outE; rw [List.range_succ, List.filter_append, List.map_append]; simp [h]
theorem outNo {E : Nat → Bool} {k : Nat} (h : E k = false) : outE E (k + 1) = outE E k := by
  unfold outE; rw [List.range_succ, List.filter_append, List.map_append]; simp [h]
theorem outLe (E : Nat → Bool) (k : Nat) : (outE E k).length ≤ k := by
  unfold outE
  rw [List.length_map]
  exact Nat.le_trans (List.length_filter_le _ _) (by simp)
theorem outRch {p : Prg} (hc : p.chk.1 = 0) {E : Nat → Bool} (h : RndR p p.funcs.length E) : RchL p (outE E p.funcs.length) := by
  refine ⟨?_, fun y => ⟨fun hy => ?_, fun hy => ?_⟩⟩
  · unfold outE Srt
    refine List.Pairwise.map _ (S := fun a b : Int => a < b) (R := fun a b : Nat => a < b) (fun a b hab => by omega) ?_
    exact List.Pairwise.filter _ List.pairwise_lt_range
  · unfold outE at hy
    obtain ⟨x, hx, rfl⟩ := List.mem_map.1 hy
    exact ⟨x, rfl, h.1 x (List.mem_filter.1 hx).2⟩
  · obtain ⟨x, rfl, hx⟩ := hy
    unfold outE
    exact List.mem_map.2 ⟨x, List.mem_filter.2 ⟨List.mem_range.2 (rchBound hc hx), h.2 x (rchAllN hc hx)⟩, rfl⟩
open Classical in
theorem rchEx {p : Prg} (hc : p.chk.1 = 0) : ∃ l, RchL p l := ⟨outE (fun f => decide (p.rch f)) p.funcs.length, outRch hc ⟨fun _ h => of_decide_eq_true h, fun _ hx => decide_eq_true ⟨_, hx⟩⟩⟩
theorem rdOne (w : World) (k : Int) (T : TypeId) : Rd (w.alloc (.cells #[.int .i64 k] T)) (some ⟨w.heap.size, 0, none⟩) 1 [k] := Rd.lit w [k] T (by simp)
set_option maxRecDepth 100000 in
set_option maxHeartbeats 4000000 in
theorem rReach {a : PgA} {p : Prg} (w : World) (hP : PgW w a p) (hW : p.Wf) (hsm : p.small = true) (hc : p.chk.1 = 0) : Calls Tryd.prog 15 #[a.val] w (GivesRe p w) := by
  have HCK := Lib.hid (fun X (hX : Below w.heap.size w X) => rCheckP X (hP.below hX) hW hsm)
  have HP := Lib.hid (fun Y (hY : Below w.heap.size w Y) => hP.below hY)
  have HF := Lib.hid (fun Y (hY : Below w.heap.size w Y) k (hk : k < p.funcs.length) => (HP.out Y hY).funcs.one hk)
  have HT := Lib.hid (fun Y (hY : Below w.heap.size w Y) k (hk : k < p.thr.length) => (HP.out Y hY).thr.one hk)
  have HL4 := Lib.hid hP.l4
  have HL5 := Lib.hid hP.l5
  have HC := Lib.hid hc
  obtain ⟨q4, q5, _, _, _⟩ := chkMany hc
  rw [hP.l4] at q4
  rw [hP.l5] at q5
  obtain ⟨A1, n1, c1, A2, n2, c2, A3, n3, c3, A4, n4, c4, A5, n5, c5⟩ := a
  simp only [PgA.val, PgA.fs] at *
  obtain ⟨V, hV⟩ : ∃ V, w.alloc (.cells #[.slice A1 n1 c1, .slice A2 n2 c2, .slice A3 n3 c3, .slice A4 n4 c4, .slice A5 n5 c5] 27) = V := ⟨_, rfl⟩
  have hbV : Below w.heap.size w V := by rw [← hV]; exact belowAlloc w _
  have HB : Hid (PBox V w.heap.size ⟨A1, n1, c1, A2, n2, c2, A3, n3, c3, A4, n4, c4, A5, n5, c5⟩) := by rw [← hV]; exact Lib.hid (Blk.new w _ _)
  have HC1 := HCK.out V hbV
  rw [show err3 p.chk = .returned (.tuple #[.int .i64 0, .int .i64 p.chk.2.1, .int .i64 p.chk.2.2]) by unfold err3; rw [hc]] at HC1
  have HC1 := Lib.hid HC1
  have HV := Lib.hid hV
  have HBV := Lib.hid hbV
  have hle5 := hP.thr.le
  have hm5 := hP.thr.max
  have hle4 := hP.funcs.le
  have hm4 := hP.funcs.max
  rw [HL4.out] at hle4
  rw [HL5.out] at hle5
  have hm5 : c5 ≤ 9223372036854775807 := hm5
  have hm4 : c4 ≤ 9223372036854775807 := hm4
  generalize p.chk.2.1 = z1 at *
  generalize p.chk.2.2 = z2 at *
  clear hP hV hbV hc hsm
  obtain ⟨f0, f1, f2, f3, f4⟩ := HB.out.facts
  go_enter Tryd.func15, Tryd.ntmps15
  go_wp2_with fail
  rw [HV.out]
  refine HC1.out.mono ?_
  rintro e w1 ⟨rfl, b1⟩
  obtain ⟨f0, f1, f2, f3, f4⟩ := (HB.out.below b1).facts
  have HB1 := Lib.hid (HB.out.below b1)
  have HBW1 := Lib.hid (belowThen HBV.out b1)
  have hgs : w.heap.size < w1.heap.size := (HB.out.below b1).lt
  have hmk := run_make_row' (P := Tryd.prog) 77 4 (.bool false) 1 Tryd.underlying77 infoBool rfl .i64 .i64 n4 (by omega) (by omega)
  clear b1
  go_wp2
  obtain ⟨X, hX⟩ : ∃ X, w1.alloc (.cells (madeCells #[.bool false] n4) 4) = X := ⟨_, rfl⟩
  rw [hX]
  have HR0 : Hid (RowB X w1.heap.size n4 (fun _ => false)) := Lib.hid (rowBNew (by rw [← hX]; exact heap_alloc_new w1 _) (by unfold maxLen; omega))
  have bX : Below w1.heap.size w1 X := by rw [← hX]; exact belowAlloc _ _
  have HBX := Lib.hid (HB1.out.below bX)
  have HBWX := Lib.hid (belowThen HBW1.out bX)
  clear hmk hX bX f0 f1 f2 f3 f4
  go_loopw [8] (fun v wr => ∃ (i : Nat) (E : Nat → Bool), i ≤ n5 ∧ v = .int .i64 i ∧ Hid (RowB wr w1.heap.size n4 E) ∧ Hid (PBox wr w.heap.size ⟨A1, n1, c1, A2, n2, c2, A3, n3, c3, A4, n4, c4, A5, n5, c5⟩) ∧ Hid (Below w.heap.size w wr) ∧ Hid (IniR p i E)) (fun v _ => n5 - (intOf v).toNat)
  case atStart => exact ⟨0, _, Nat.zero_le _, rfl, HR0, HBX, HBWX, Lib.hid ⟨fun f h => (by cases h), fun j _ h => (by omega)⟩⟩
  case round =>
    obtain ⟨i, E, hi, rfl, HR, HX, HW, HI⟩ := hrel
    obtain ⟨f0, f1, f2, f3, f4⟩ := HX.out.facts
    by_cases hlt : i < n5
    · have hil : i < p.thr.length := by rw [HL5.out]; exact hlt
      obtain ⟨q, off, hA, _, h1, _⟩ := HT.out wr HW.out i hil
      have hA : A5 = _ := hA
      subst hA
      have hbel := chkThr HC.out _ (List.getElem_mem hil)
      obtain ⟨g, hg, hgn⟩ : ∃ g : Nat, (p.thr[i]).1 = (g : Int) ∧ g < n4 := ⟨(p.thr[i]).1.toNat, by
        have hl4 : p.funcs.length = n4 := HL4.out
        unfold belB at hbel
        rw [Bool.and_eq_true, decide_eq_true_iff, decide_eq_true_iff] at hbel
        omega⟩
      rw [hg] at h1
      have HN := Lib.hid (iniNext HI.out hil hg)
      have hcell := HR.out.cell hgn
      have hfz := HR.out.frozen g
      have HS := Lib.hid (HR.out.set g)
      have HX2 := Lib.hid (Blk.other HX.out (g := w1.heap.size) (by omega) g (.bool true))
      have HW2 := Lib.hid (HW.out.setCell (p := ⟨w1.heap.size, g, none⟩) (Nat.le_of_lt hgs) (.bool true))
      have hi0 : (0 : Int) ≤ i := by omega
      have hi1 : (i : Int) < n5 := by omega
      have hg0 : (0 : Int) ≤ g := by omega
      have hg1 : (g : Int) < n4 := by omega
      clear hbel hg
      go_wp2
      go_roundw
      case rel => exact ⟨i + 1, _, by omega, by go_num, HS, HX2, HW2, HN⟩
      case measure => simp [intOf]; omega
    · have HQ := Lib.hid (iniDone HI.out (by rw [HL5.out]; show n5 ≤ i; omega))
      go_wp2
      go_loopw [9] (fun v wr => ∃ (r : Nat) (E : Nat → Bool), r ≤ n4 ∧ v = .int .i64 r ∧ Hid (RowB wr w1.heap.size n4 E) ∧ Hid (PBox wr w.heap.size ⟨A1, n1, c1, A2, n2, c2, A3, n3, c3, A4, n4, c4, A5, n5, c5⟩) ∧ Hid (Below w.heap.size w wr) ∧ Hid (RndR p r E)) (fun v _ => n4 - (intOf v).toNat)
      case atStart => exact ⟨0, E, Nat.zero_le _, rfl, HR, HX, HW, HQ⟩
      case round =>
        clear HR HX HW HI HQ f0 f1 f2 f3 f4
        obtain ⟨r, E, hr, rfl, HR, HX, HW, HI⟩ := hrel
        by_cases hltr : r < n4
        · have HQ := Lib.hid (inStart HI.out)
          go_wp2
          go_loopw [10] (fun v wr => ∃ (f : Nat) (E : Nat → Bool), f ≤ n4 ∧ v = .int .i64 f ∧ Hid (RowB wr w1.heap.size n4 E) ∧ Hid (PBox wr w.heap.size ⟨A1, n1, c1, A2, n2, c2, A3, n3, c3, A4, n4, c4, A5, n5, c5⟩) ∧ Hid (Below w.heap.size w wr) ∧ Hid (InR p r f 0 E)) (fun v _ => n4 - (intOf v).toNat)
          case atStart => exact ⟨0, E, Nat.zero_le _, rfl, HR, HX, HW, HQ⟩
          case round =>
            clear HR HX HW HI HQ
            obtain ⟨f, E, hf, rfl, HR, HX, HW, HI⟩ := hrel
            by_cases hltf : f < n4
            · go_wp2
              go_loopw [11] (fun v wr => ∃ (g : Nat) (E : Nat → Bool), g ≤ n4 ∧ v = .int .i64 g ∧ Hid (RowB wr w1.heap.size n4 E) ∧ Hid (PBox wr w.heap.size ⟨A1, n1, c1, A2, n2, c2, A3, n3, c3, A4, n4, c4, A5, n5, c5⟩) ∧ Hid (Below w.heap.size w wr) ∧ Hid (InR p r f g E)) (fun v _ => n4 - (intOf v).toNat)
              case atStart => exact ⟨0, E, Nat.zero_le _, rfl, HR, HX, HW, HI⟩
              case round =>
                clear HR HX HW HI
                obtain ⟨g, E, hg, rfl, HR, HX, HW, HI⟩ := hrel
                by_cases hltg : g < n4
                · have hfl : f < p.funcs.length := by rw [HL4.out]; exact hltf
                  have hEf := HR.out.cell hltf
                  have hEg := HR.out.cell hltg
                  have hfz := HR.out.frozen g
                  have hf0 : (0 : Int) ≤ f := by omega
                  have hf1 : (f : Int) < n4 := by omega
                  have hg0 : (0 : Int) ≤ g := by omega
                  have hg1 : (g : Int) < n4 := by omega
                  obtain ⟨f0, f1, f2, f3, f4⟩ := HX.out.facts
                  clear f0 f1 f2 f4
                  cases hE : E f
                  · rw [hE] at hEf
                    have HN := Lib.hid (inNo HI.out hE)
                    clear hE hEg hfz f3
                    go_wp2
                    go_roundw
                    case rel => exact ⟨g + 1, E, by omega, by go_num, HR, HX, HW, HN⟩
                    case measure => simp [intOf]; omega
                  · obtain ⟨q, off, hA, _, h1, v, h2, Ac, nc, cc, rfl, hnc, hrd⟩ := HF.out wr HW.out f hfl
                    have hA : A4 = _ := hA
                    subst hA
                    have HSP := Lib.hid (rSpawns (p.funcs[f]).1 (p.funcs[f]).2 Ac nc cc (g : Int) wr hnc hrd)
                    rw [hE] at hEf
                    generalize hnm : (p.funcs[f]).1 = nm at h1 HSP
                    clear hnc hrd hnm
                    cases hsp : spw (p.funcs[f]).2 (g : Int)
                    · have HN := Lib.hid (inSkip HI.out hfl hsp)
                      rw [hsp] at HSP
                      clear hE hsp hEg hfz
                      go_wp2_with fail
                      refine HSP.out.mono ?_
                      rintro e w4 ⟨rfl, b4⟩
                      have HR2 := Lib.hid (HR.out.chg (Chg.ofBelow b4 fun _ => True) trivial)
                      have HX2 := Lib.hid (HX.out.below b4)
                      have HW2 := Lib.hid (belowThen HW.out b4)
                      clear b4
                      go_wp2
                      go_roundw
                      case rel => exact ⟨g + 1, E, by omega, by go_num, HR2, HX2, HW2, HN⟩
                      case measure => simp [intOf]; omega
                    · have HN := Lib.hid (inMark HI.out hfl hE hsp)
                      rw [hsp] at HSP
                      clear hE hsp hEg hfz
                      go_wp2_with fail
                      refine HSP.out.mono ?_
                      rintro e w4 ⟨rfl, b4⟩
                      have hr4 := HR.out.chg (Chg.ofBelow b4 fun _ => True) trivial
                      have hEg := hr4.cell hltg
                      have hfz := hr4.frozen g
                      have HR2 := Lib.hid (hr4.set g)
                      have HX2 := Lib.hid (Blk.other (HX.out.below b4) (g := w1.heap.size) (by omega) g (.bool true))
                      have HW2 := Lib.hid ((belowThen HW.out b4).setCell (p := ⟨w1.heap.size, g, none⟩) (Nat.le_of_lt hgs) (.bool true))
                      clear b4 hr4
                      go_wp2
                      go_roundw
                      case rel => exact ⟨g + 1, _, by omega, by go_num, HR2, HX2, HW2, HN⟩
                      case measure => simp [intOf]; omega
                · have HN := Lib.hid (inRow HI.out (by rw [HL4.out]; show n4 ≤ g; omega))
                  go_wp2
                  go_roundw
                  case rel => exact ⟨f + 1, E, by omega, by go_num, HR, HX, HW, HN⟩
                  case measure => simp [intOf]; omega
            · have HN := Lib.hid (inDone HC.out HI.out (by rw [HL4.out]; show n4 ≤ f; omega))
              go_wp2
              go_roundw
              case rel => exact ⟨r + 1, E, by omega, by go_num, HR, HX, HW, HN⟩
              case measure => simp [intOf]; omega
        · have hrn : r = p.funcs.length := by rw [HL4.out]; show r = n4; omega
          have HO := Lib.hid (outRch HC.out (hrn ▸ HI.out))
          rw [HL4.out] at HO
          have HRW := Lib.hid (fun Y (hY : Below wr.heap.size wr Y) => HR.out.chg (Chg.ofBelow hY fun _ => True) trivial)
          obtain ⟨wo, hwo⟩ : ∃ x, x = wr := ⟨wr, rfl⟩
          subst hwo
          clear hrn
          go_wp2
          go_loopw [12, 13] (fun vo v wr => ∃ k : Nat, k ≤ n4 ∧ v = .int .i64 k ∧ OwnI wr wo.heap.size vo (outE E k) ∧ Below wo.heap.size wo wr) (fun _ v _ => n4 - (intOf v).toNat)
          case atStart => exact ⟨0, Nat.zero_le _, rfl, OwnI.nil _ _, Below.refl _ _⟩
          case round =>
            obtain ⟨k, hk, rfl, ho, hb⟩ := hrel
            have hol := outLe E k
            by_cases hltk : k < n4
            · have hcell := (HRW.out wr hb).cell hltk
              have hk0 : (0 : Int) ≤ k := by omega
              have hk1 : (k : Int) < n4 := by omega
              cases hE : E k
              · rw [hE] at hcell
                have ho2 := ho
                rw [← outNo hE] at ho2
                have HO2 := Lib.hid ho2
                clear hE ho2
                go_wp2
                go_roundw
                case rel => exact ⟨k + 1, by omega, by go_num, HO2.out, hb⟩
                case measure => simp [intOf]; omega
              · rw [hE] at hcell
                have HE := Lib.hid (outYes hE)
                clear hE
                go_wp2_with (at_builtin; refine appI _ rfl (.tmp 86) (.tmp 88) rfl wo.heap.size _ (outE E k) rfl (ho.alloc _) (some ⟨wr.heap.size, 0, none⟩) 1 1 [(k : Int)] rfl rfl (rdOne _ _ _) (by simp; omega) (by have := hb.size; simp; omega) ?_; intro v1 w2 o1 _ b1; have B1 := stepA hb b1)
                go_roundw
                case rel => exact ⟨k + 1, by omega, by go_num, by rw [HE.out]; exact o1, B1⟩
                case measure => simp [intOf]; omega
            · obtain rfl : k = n4 := by omega
              have HW2 := Lib.hid (belowThen HW.out hb)
              obtain ⟨A, c, rfl, hrd, _⟩ := ho.rd
              have HRD := Lib.hid hrd
              have HN := Lib.hid (rfl : (outE E k).length = (outE E k).length)
              go_wp2
              go_ret2
              exact ⟨A, _, c, outE E k, rfl, HRD.out, rfl, HO.out, HW2.out⟩
end Go.Proofs.YtncpnkincdjgfaaDoor

namespace Go.Proofs.YtncpnkincdjgfaaDoor
open Go Go.RowKit

set_option maxHeartbeats 1000000 in
theorem rReachBad {a : PgA} {p : Prg} (w : World) (hP : PgW w a p) (hW : p.Wf) (hsm : p.small = true) (hc : p.chk.1 ≠ 0) :
    Calls Tryd.prog 15 #[a.val] w fun e w' => e = .returned (.tuple #[.slice none 0 0, .int .i64 p.chk.1]) ∧ Below w.heap.size w w' := by
  have HC := Lib.hid (fun X (hX : Below w.heap.size w X) => rCheckP X (hP.below hX) hW hsm)
  generalize p.chk = c at HC hc ⊢
  obtain ⟨x, y, z⟩ := c
  simp only [err3] at HC hc ⊢
  have hx : (x != 0) = true := by simpa using hc
  obtain ⟨A1, n1, c1, A2, n2, c2, A3, n3, c3, A4, n4, c4, A5, n5, c5⟩ := a
  simp only [PgA.val, PgA.fs] at *
  have hbW := belowAlloc w (.cells #[.slice A1 n1 c1, .slice A2 n2 c2, .slice A3 n3 c3, .slice A4 n4 c4, .slice A5 n5 c5] 27)
  have HB := Lib.hid hbW
  clear hP hW hsm hc
  go_enter Tryd.func15, Tryd.ntmps15
  go_wp2_with fail
  refine (HC.out _ HB.out).mono ?_
  rintro e w2 ⟨rfl, b2⟩
  go_wp2
  go_ret2
  exact ⟨rfl, belowThen HB.out b2⟩
def LawOkP (w : World) (e : Ending) (w' : World) : Prop := e = .returned (.bool true) ∧ Below w.heap.size w w'
/-- Both Reachables, with and without an error: the same list and the same error. -/
def GivesB (l : List Int) (E : Int) (w : World) (e : Ending) (w' : World) : Prop := ∃ A n c, e = .returned (.tuple #[.slice A n c, .int .i64 E]) ∧ Rd w' A c l ∧ l.length = n ∧ Below w.heap.size w w'
theorem bothReach {a : PgA} {p : Prg} (hW : p.Wf) (hsm : p.small = true) (w : World) (hP : PgW w a p) (hL : Laid7 w) : ∃ (l : List Int) (E : Int), (∀ X, Below w.heap.size w X → Calls Tryd.prog 14 #[a.val] X (GivesB l E X)) ∧ (∀ X, Below w.heap.size w X → Calls Tryd.prog 15 #[a.val] X (GivesB l E X)) := by
  by_cases hc : p.chk.1 = 0
  · have hex : ∃ l, RchL p l := rchEx hc
    obtain ⟨l, hl⟩ := hex
    refine ⟨l, 0, fun X hX => (iReach X (hP.below hX) hW (hL.below hX).ins (hL.below hX).nm hc).mono ?_, fun X hX => (rReach X (hP.below hX) hW hsm hc).mono ?_⟩
    · rintro e X' ⟨A, n, c, m, rfl, hr, hn, hm, hb⟩
      obtain rfl := hl.uniq hm
      exact ⟨A, n, c, rfl, hr, hn, hb⟩
    · rintro e X' ⟨A, n, c, m, rfl, hr, hn, hm, hb⟩
      obtain rfl := hl.uniq hm
      exact ⟨A, n, c, rfl, hr, hn, hb⟩
  · refine ⟨[], p.chk.1, fun X hX => (iReachBad X (hP.below hX) hW (hL.below hX).ins (hL.below hX).nm hc).mono ?_, fun X hX => (rReachBad X (hP.below hX) hW hsm hc).mono ?_⟩
    · rintro e X' ⟨rfl, hb⟩
      exact ⟨none, 0, 0, rfl, Rd.nil, rfl, hb⟩
    · rintro e X' ⟨rfl, hb⟩
      exact ⟨none, 0, 0, rfl, Rd.nil, rfl, hb⟩
set_option maxRecDepth 100000 in
set_option maxHeartbeats 2000000 in
theorem lawReachesP {a : PgA} {p : Prg} (hWf : p.Wf) (w : World) (hP : PgW w a p) (hL : Laid7 w) : Calls Tryd.prog 4 #[a.val] w (LawOkP w) := by
  obtain ⟨W, hWE⟩ : ∃ W, w.alloc (.cells a.fs 27) = W := ⟨_, rfl⟩
  have hbW : Below w.heap.size w W := by rw [← hWE]; exact belowAlloc w _
  have hB : PBox W w.heap.size a := by rw [← hWE]; exact Blk.new w _ _
  have HK := Lib.hid (fun Y (hY : Below W.heap.size W Y) => (hB.below hY).facts)
  have hPW := hP.below hbW
  have hLW := hL.below hbW
  have H1 := Lib.hid (fun X (hX : Below W.heap.size W X) => rSmall X (hPW.below hX))
  have HLV := Lib.hid (fun X (hX : Below W.heap.size W X) => livesP X (hLW.below hX))
  have HW := Lib.hid hWE
  have HBW := Lib.hid hbW
  cases hsm : p.small
  · rw [hsm] at H1
    obtain ⟨A1, n1, c1, A2, n2, c2, A3, n3, c3, A4, n4, c4, A5, n5, c5⟩ := a
    simp only [PgA.val, PgA.fs] at *
    clear hsm hP hL hB hbW hWE hPW hLW
    go_enter Tryd.func4, Tryd.ntmps4
    go_wp2_with fail
    rw [HW.out]
    refine (H1.out _ (Below.refl _ _)).mono ?_
    rintro e w1 ⟨rfl, b1⟩
    go_wp2_with fail
    refine (HLV.out _ b1).mono ?_
    rintro e w2 ⟨rfl, b2⟩
    go_wp2
    go_ret
    exact ⟨rfl, belowThen HBW.out (belowThen b1 b2)⟩
  rw [hsm] at H1
  obtain ⟨l, E, hi, hr⟩ := bothReach hWf hsm W hPW hLW
  have HI := Lib.hid hi
  have HR := Lib.hid hr
  obtain ⟨A1, n1, c1, A2, n2, c2, A3, n3, c3, A4, n4, c4, A5, n5, c5⟩ := a
  simp only [PgA.val, PgA.fs] at *
  clear hsm hP hL hB hbW hWE hPW hLW hi hr
  go_enter Tryd.func4, Tryd.ntmps4
  go_wp2_with fail
  rw [HW.out]
  refine (H1.out _ (Below.refl _ _)).mono ?_
  rintro e w1 ⟨rfl, b1⟩
  obtain ⟨f0, f1, f2, f3, f4⟩ := HK.out w1 b1
  have B1 := Lib.hid b1
  go_wp2_with fail
  refine (HI.out _ B1.out).mono ?_
  rintro e w2 ⟨A, n, c, rfl, r1, hn1, b2⟩
  have B2 := Lib.hid (belowThen B1.out b2)
  clear f0 f1 f2 f3 f4
  obtain ⟨f0, f1, f2, f3, f4⟩ := HK.out w2 B2.out
  have HR1 := Lib.hid r1
  clear b1 b2 r1
  go_wp2_with fail
  refine (HR.out _ B2.out).mono ?_
  rintro e w3 ⟨B, m, d, rfl, r2, hn2, b3⟩
  obtain rfl : m = n := hn2.symm.trans hn1
  have B3 := Lib.hid (belowThen B2.out b3)
  have HX1 := Lib.hid (fun Y (hY : Below w3.heap.size w3 Y) => (HR1.out.below b3).below hY)
  have HX2 := Lib.hid (fun Y (hY : Below w3.heap.size w3 Y) => r2.below hY)
  have HN := Lib.hid hn1
  have hle1 := HR1.out.le
  have hmx1 : c ≤ 9223372036854775807 := HR1.out.max
  have hle2 := r2.le
  have hmx2 : d ≤ 9223372036854775807 := r2.max
  rw [hn1] at hle1 hle2
  clear f0 f1 f2 f3 f4 b3 r2 hn1 hn2
  go_wp2
  go_loopw [7] (fun v wr => ∃ i : Nat, i ≤ m ∧ v = .int .i64 i ∧ Below w3.heap.size w3 wr) (fun v _ => m - (intOf v).toNat)
  case atStart => exact ⟨0, Nat.zero_le _, rfl, Below.refl _ _⟩
  case round =>
    obtain ⟨i, hi, rfl, hb⟩ := hrel
    by_cases hlt : i < m
    · have hil : i < l.length := by rw [HN.out]; exact hlt
      obtain ⟨b1, o1, e1, _, x1⟩ := rdFlat (HX1.out wr hb) (by omega)
      obtain ⟨b2, o2, e2, _, x2⟩ := rdFlat (HX2.out wr hb) (by omega)
      have x1 := x1 i hil
      have x2 := x2 i hil
      subst e1; subst e2
      generalize l[i] = y at x1 x2
      have hi0 : (0 : Int) ≤ i := by omega
      have hi1 : (i : Int) < m := by omega
      have HDN := Lib.hid (fun nq => belowDrewN hb nq)
      go_wp2_with fail
      go_quiet (fail)
      go_wp2
      go_roundw
      case rel => exact ⟨i + 1, by omega, by go_num, HDN.out _⟩
      case measure => simp [intOf]; omega
    · go_wp2_with fail
      refine (HLV.out _ (belowThen B3.out hb)).mono ?_
      rintro e w4 ⟨rfl, b4⟩
      go_wp2
      go_ret
      exact ⟨rfl, belowThen HBW.out (belowThen B3.out (belowThen hb b4))⟩
end Go.Proofs.YtncpnkincdjgfaaDoor

namespace Go.Proofs.YtncpnkincdjgfaaDoor.programReaches
open Go Go.ChangeShapes Go.WideShapes Go.ChangeAt Go.WideMaps Go.WideElems Go.RowKit Go.ChangeMaps

set_option maxRecDepth 100000 in
theorem lifted (os : Os) (started : os.Started) (H : Type) (enc : TypeId × Value → H) :
    ReturnsInHanded {} Tryd.checked os 4 .any (fun w args => (Rows.programReachesSpec.pre enc Tryd.prog Tryd.f4 [] false w args ∧ laidMetH Tryd.prog laidA w) ∧ sizedMet enc Tryd.prog Tryd.f4 (OpenSpec.ofChange Rows.programReachesSpec) false w args)
      (Rows.programReachesSpec.post enc Tryd.prog Tryd.f4 false true false false) := by
  refine returnsInHanded_of_change_and (C := Tryd.checked) (X := fun w _ => laidMetH Tryd.prog laidA w) (fun _ _ _ hh h => h.of_heap hh) ownKnob0 started (by kernel_rfl) Tryd.func4
    (ChangeSpec.witness_shaped (enc := enc) (C := Tryd.checked) (os := os) (X := fun w _ => laidMetH Tryd.prog laidA w) false (World.doorLaid Tryd.prog 400 os) #[.agg #[.slice none 0 0, .slice none 0 0, .slice none 0 0, .slice none 0 0, .slice none 0 0]] 8 rfl (World.shaped_of_RefB (by kernel_rfl) (by kernel_rfl)) (by kernel_rfl) (by kernel_rfl) (by kernel_rfl) (doorA os _)) ?_
  intro W base args ds gs before hval0 hW _ _ hL _
  have hval : ∀ (j : Nat) t v, Tryd.f4.params[j]? = some t → args[j]? = some v → Value.okWide Tryd.prog W .any base t v := hval0
  have hW' := hW
  obtain ⟨p, q, hA0, hV, rfl, hfz, hnd⟩ := hW
  have hA : DataW.TrodAll enc Tryd.prog W 0 (fun _ => true) true Tryd.f4.params.toList args.toList ds p := hA0
  rw [Tryd.params4] at hA hval
  obtain ⟨v0, vs0, d0, ds0, p0, q0, hargs, rfl, rfl, h0, r0⟩ := trodAll_cons hA
  obtain ⟨rfl, rfl, rfl⟩ := trodAll_nil r0
  obtain rfl : args = #[v0] := by cases args; simp_all
  obtain ⟨rfl, rfl⟩ := trodVars_none hV
  have g0 := h0
  obtain ⟨a0, pg0, rfl, pw0, gw0⟩ := openPg (hval 0 27 v0 rfl rfl) h0
  clear hA0 hval0
  simp only [List.append_nil] at hW'
  refine (lawReachesP gw0 W pw0 (metA hL)).mono fun e W' ⟨he, hb⟩ => ?_
  subst he
  exact ⟨_, rfl, _, _, _, [], _, [], hW', trodAll_cons_mk (shut_bool Tryd.underlying4 _) trodAll_mk0, trodAll_cons_mk (Below.trod laidOut0 (by kernel_rfl) (of_decide_eq_true (by kernel_rfl)) g0 hb (fun y hy => by simpa using hW'.lt y (by simp [hy]))) (trodAll_mk0), rfl, hb.frame _, fun h => by cases h⟩

theorem over : Rows.programReachesRow.holds Tryd.pinned (OpenSpec.ofChange Rows.programReachesSpec) :=
  OpenClaim.holds_of_wide 4 Tryd.f4 rfl rfl rfl rfl rfl rfl rfl ⟨rfl, rfl, rfl, rfl, rfl⟩ rfl rfl rfl rfl rfl (by kernel_rfl) Tryd.func4 (by kernel_rfl)
    (of_decide_eq_true (by kernel_rfl)) (by unfold Func.isWrapper; first | (rw [if_pos (by decide +kernel)]; kernel_rfl) | (rw [if_neg (by decide +kernel)]; exact ⟨rfl, rfl⟩))
    (fun os started H enc _ => lifted os started H enc)

theorem proved : Rows.ProgramReachesCardSaid :=
  Claim7.holds_tied_plain_at .later [] [.data, .data] true Rows.programReachesCard.stood.harness false
    over (fun _ h => by cases h) (by kernel_rfl) (fun _ h => by cases h) programReaches_row_tie rfl ⟨rfl, rfl⟩ (by kernel_rfl) rfl
    (fun f fn hf hfn => by
      obtain rfl : f = 4 := Option.some.inj ((show Tryd.prog.funcNamed Rows.programReachesRow.func = some 4 by kernel_rfl).symm.trans hf) |>.symm
      obtain rfl : fn = Tryd.f4 := (Option.some.inj (Tryd.func4.symm.trans hfn)).symm
      exact ⟨by kernel_rfl, fun j t ht => by
        rw [Tryd.params4] at ht
        have hm : t ∈ [27] := by simpa using Array.mem_of_getElem? ht
        have hall : ([27].all fun u => !Tryd.prog.wantsStandIn u) = true := by kernel_rfl
        exact (show Tryd.prog.wantsStandIn t = false by simpa using List.all_eq_true.1 hall t hm)⟩)
    (by kernel_rfl)
#print axioms proved
end Go.Proofs.YtncpnkincdjgfaaDoor.programReaches
