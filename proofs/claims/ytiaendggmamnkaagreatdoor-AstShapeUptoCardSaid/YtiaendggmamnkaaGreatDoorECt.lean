/-
  cloneTrees' stack, pure; what lies in memory while it works on expressions.
-/
import Derived.Test.YtiaendggmamnkaaGreatDoorEAsGd
import Derived.Test.YtiaendggmamnkaaGreatDoorERl
import Derived.Test.YtiaendggmamnkaaGreatDoorETrM
import Derived.Deep.LoopGhost
namespace Go.Proofs.YtiaendggmamnkaaGreatDoor
open Go Go.RowKit

namespace Tr
variable {β : Type}
/-- A stack's weight: a round makes it smaller. -/
def wt1 : List (List (Tr β)) → Nat
  | [] => 0
  | a :: S => 2 * szL a + 1 + wt1 S
def psh1 (a : List (Tr β)) (S : List (List (Tr β))) : List (List (Tr β)) := if a = [] then S else a :: S
theorem wtPsh1 (a : List (Tr β)) (S : List (List (Tr β))) : wt1 (psh1 a S) ≤ 2 * szL a + 1 + wt1 S := by
  unfold psh1
  split
  · omega
  · exact Nat.le_of_eq rfl
theorem wtPshGe1 (a : List (Tr β)) (S : List (List (Tr β))) : wt1 S ≤ wt1 (psh1 a S) := by
  unfold psh1
  split
  · exact Nat.le_refl _
  · rw [wt1]; omega
/-- The lists inside the first k elements, on a stack. -/
def psh1K (A : List (Tr β)) (S : List (List (Tr β))) : Nat → List (List (Tr β))
  | 0 => S
  | k + 1 => match A[k]? with
    | some x => psh1 x.snd (psh1 x.fst (psh1K A S k))
    | none => psh1K A S k
theorem psh1KGo {A : List (Tr β)} {S : List (List (Tr β))} {k : Nat} (h : k < A.length) : psh1K A S (k + 1) = psh1 A[k].snd (psh1 A[k].fst (psh1K A S k)) := by
  rw [psh1K, List.getElem?_eq_getElem h]
theorem wtPsh1K {A : List (Tr β)} {S : List (List (Tr β))} : ∀ k, k ≤ A.length → wt1 (psh1K A S k) ≤ 2 * szL (A.take k) + wt1 S
  | 0, _ => by simp [psh1K, szL]
  | k + 1, hk => by
    rw [psh1KGo (by omega), szTake A k (by omega), szFs]
    have i1 := wtPsh1 A[k].snd (psh1 A[k].fst (psh1K A S k))
    have i2 := wtPsh1 A[k].fst (psh1K A S k)
    have i3 := wtPsh1K (A := A) (S := S) k (by omega)
    omega
theorem szTake1 : ∀ (l : List (Tr β)) (k : Nat), szL (l.take k) ≤ szL l
  | [], k => by simp
  | t :: r, 0 => by simp [szL]
  | t :: r, k + 1 => by
    have := szTake1 r k
    simp only [List.take_succ_cons, szL]
    omega
theorem wtStep1 {A : List (Tr β)} {S : List (List (Tr β))} (k : Nat) (hk : k ≤ A.length) : wt1 (psh1K A S k) < wt1 (A :: S) := by
  have h := wtPsh1K (A := A) (S := S) k hk
  have h2 := szTake1 A k
  rw [wt1]
  omega
theorem wtLen1 : ∀ S : List (List (Tr β)), S.length ≤ wt1 S
  | [] => Nat.zero_le _
  | a :: S => by rw [wt1, List.length_cons]; have := wtLen1 S; omega
theorem psh1Nil (S : List (List (Tr β))) : psh1 [] S = S := if_pos rfl
end Tr
theorem FreshRow.over {w w' : World} {base m : Nat} {A : Option Addr} {e : TypeId} (h : FreshRow w base A m e) (hh : ∀ g cur, base ≤ g → w.heap[g]? = some (.cells cur e (0, 0)) → ∃ cur', w'.heap[g]? = some (.cells cur' e (0, 0)) ∧ cur'.size = cur.size) : FreshRow w' base A m e := fun hm => by
  obtain ⟨g, cur, e1, e2, e3, e4⟩ := h hm
  obtain ⟨cur', h1, h2⟩ := hh g cur e2 e3
  exact ⟨g, cur', e1, e2, h1, by omega⟩
section
variable {β : Type} {k B : Nat} {T : TypeId} {E E' : World → Nat → Nat → Tr β → Prop} {w w' : World}
/-- The row's slices, the last one first, read as lists; they lie in new rows. -/
def StkL (B : Nat) (T : TypeId) (k : Nat) (E : World → Nat → Nat → Tr β → Prop) (w : World) : List SlA → List (List (Tr β)) → Prop
  | [], [] => True
  | p :: L, a :: S => p.n = a.length ∧ RdE k E w p.A p.c a ∧ FreshRow w B p.A (p.n * k) T ∧ StkL B T k E w L S
  | _, _ => False
theorem StkL.over (hs : w.heap.size ≤ w'.heap.size) (hE : ∀ b o x, b < w.heap.size → E w b o x → E' w' b o x) (hh : ∀ g cur, B ≤ g → w.heap[g]? = some (.cells cur T (0, 0)) → ∃ cur', w'.heap[g]? = some (.cells cur' T (0, 0)) ∧ cur'.size = cur.size) : ∀ {L : List SlA} {S : List (List (Tr β))}, StkL B T k E w L S → StkL B T k E' w' L S
  | [], [], _ => trivial
  | _ :: _, _ :: _, ⟨h1, h2, h3, h4⟩ => ⟨h1, h2.over hs hE, h3.over hh, StkL.over hs hE hh h4⟩
  | [], _ :: _, h => h.elim
  | _ :: _, [], h => h.elim
theorem StkL.len : ∀ {L : List SlA} {S : List (List (Tr β))}, StkL B T k E w L S → L.length = S.length
  | [], [], _ => rfl
  | _ :: _, _ :: _, ⟨_, _, _, h4⟩ => by simp [StkL.len h4]
  | [], _ :: _, h => h.elim
  | _ :: _, [], h => h.elim
theorem StkL.next {p : SlA} {L : List SlA} {S : List (List (Tr β))} (h : StkL B T k E w (p :: L) S) : ∃ a S', S = a :: S' ∧ p.n = a.length ∧ RdE k E w p.A p.c a ∧ FreshRow w B p.A (p.n * k) T ∧ StkL B T k E w L S' := by
  match S, h with
  | a :: S', ⟨h1, h2, h3, h4⟩ => exact ⟨a, S', rfl, h1, h2, h3, h4⟩
end
/-- A list on the stack. -/
def pshS (p : SlA) (L : List SlA) : List SlA := if p.n = 0 then L else p :: L
theorem pshSRev (p : SlA) (L : List SlA) : pshA1 p L.reverse = (pshS p L).reverse := by
  unfold pshA1 pshS
  split
  · rfl
  · simp
theorem StkL.push {β : Type} {k B : Nat} {T : TypeId} {E : World → Nat → Nat → Tr β → Prop} {w : World} {p : SlA} {a : List (Tr β)} {L : List SlA} {S : List (List (Tr β))} (h : StkL B T k E w L S) (hn : p.n = a.length) (hr : RdE k E w p.A p.c a) (hf : FreshRow w B p.A (p.n * k) T) : StkL B T k E w (pshS p L) (Tr.psh1 a S) := by
  unfold pshS Tr.psh1
  by_cases e : a = []
  · subst e
    rw [if_pos (by rw [hn]; rfl), if_pos rfl]
    exact h
  · rw [if_neg (by rw [hn]; exact fun q => e (List.eq_nil_of_length_eq_zero q)), if_neg e]
    exact ⟨hn, hr, hf, h⟩
/-- What waits on the stack: blocks and lengths. -/
def Pend (L : List SlA) (g n : Nat) : Prop := ∃ p ∈ L, p.A = some ⟨g, 0, none⟩ ∧ p.n = n
theorem Pend.psh {p : SlA} {L : List SlA} {g n : Nat} (h : Pend L g n) : Pend (pshS p L) g n := by
  obtain ⟨q, h1, h2⟩ := h
  refine ⟨q, ?_, h2⟩
  unfold pshS
  split
  · exact h1
  · exact List.mem_cons_of_mem _ h1
theorem Pend.top {p : SlA} {L : List SlA} {g : Nat} (hn : 0 < p.n) (h : p.A = some ⟨g, 0, none⟩) : Pend (pshS p L) g p.n := by
  refine ⟨p, ?_, h, rfl⟩
  unfold pshS
  rw [if_neg (by omega)]
  exact List.mem_cons_self
theorem Pend.pop {p : SlA} {L : List SlA} {g n : Nat} (h : Pend (p :: L) g n) : Pend L g n ∨ (p.A = some ⟨g, 0, none⟩ ∧ n = p.n) := by
  obtain ⟨q, h1, h2, h3⟩ := h
  rcases List.mem_cons.1 h1 with rfl | h1
  · exact .inr ⟨h2, h3.symm⟩
  · exact .inl ⟨q, h1, h2, h3⟩
/-- The place of a copy's list: the copy in its place reads alike. -/
theorem putX {B n : Nat} {X X1 : World} {g0 i : Nat} {A A' : Option Addr} {c c' : Nat} {Lr : List (List Value)} (hL : Lr.length = n) (hp : X.cell? ⟨g0, i, none⟩ = some (.slice A n c)) (hr : RdE 5 (Raw 5) X A c Lr) (hb : Below X.heap.size X X1) (hr1 : RdE 5 (Raw 5) X1 A' c' Lr) (hf : FreshRow X1 X.heap.size A' (n * 5) 37) (hB : B ≤ X.heap.size) :
    ∀ {d : Nat} {b o : Nat} {t : Ex}, b < X.heap.size → GX B d X b o t → GX B d (X1.setCell ⟨g0, i, none⟩ (.slice A' n c')) b o t := by
  have hg := World.block_lt_of_cell? _ _ hp
  intro d b o t hl h
  refine GX.put ((hb.cell hg).trans hp) (fun d l hs => ?_) (stabGX B d _ _ _ _ _ hl hb h)
  exact GX.row hL (hr.below (fun _ _ _ _ _ hl hb h j hj => (hb.cell hl).trans (h j hj)) hb) hr1 (hf.mono hB) (Below.refl _ _) d l hs
theorem freshPut {B : Nat} {T : TypeId} {X X1 : World} {g0 i : Nat} {v : Value} (hb : Below X.heap.size X X1) : ∀ g cur, B ≤ g → X.heap[g]? = some (.cells cur T (0, 0)) → ∃ cur', (X1.setCell ⟨g0, i, none⟩ v).heap[g]? = some (.cells cur' T (0, 0)) ∧ cur'.size = cur.size := fun _ _ _ h =>
  heapSet v ((hb.block _ (Array.getElem?_eq_some_iff.1 h).1).trans h)
end Go.Proofs.YtiaendggmamnkaaGreatDoor

namespace Go.Proofs.YtiaendggmamnkaaGreatDoor
open Go Go.RowKit

/-- The stack S in open's box z; the copy A1 reads as l; its rows are new but for what waits in P. -/
structure CtX (dx : Nat) (w X : World) (A1 : Option Addr) (c1 : Nat) (l : List Ex) (z : Nat) (P : Nat → Nat → Prop) (L : List SlA) (S : List (List Ex)) (v : Value) : Prop where
  bel : Below w.heap.size w X
  rd : RdE 5 (GX w.heap.size dx) X A1 c1 l
  top : ∀ d, RowN w.heap.size 37 5 P (NX w.heap.size P d) X A1 l
  stk : StkL w.heap.size 37 5 (GX w.heap.size dx) X L S
  box : Blk X z 220 #[v]
  row : OwnSX X w.heap.size v L.reverse
  ne : v.ownBlock ≠ some z
  old : w.heap.size ≤ z
  sz : Tr.wt1 S ≤ 8000001
theorem CtX.len {dx : Nat} {w X : World} {A1 : Option Addr} {c1 : Nat} {l : List Ex} {z : Nat} {P : Nat → Nat → Prop} {L : List SlA} {S : List (List Ex)} {v : Value} (h : CtX dx w X A1 c1 l z P L S v) : L.reverse.length ≤ 10000000 := by
  have h1 := h.stk.len
  have h2 := h.sz
  have h3 := Tr.wtLen1 S
  rw [List.length_reverse]
  omega
/-- No row of expressions, and nothing old, is touched by a change of the stack. -/
theorem CtX.apart {dx : Nat} {w X : World} {A1 : Option Addr} {c1 : Nat} {l : List Ex} {z : Nat} {P : Nat → Nat → Prop} {L : List SlA} {S : List (List Ex)} {v : Value} (h : CtX dx w X A1 c1 l z P L S v) : ∀ b, b < X.heap.size → Ty w.heap.size 37 X b → b ≠ z ∧ v.ownBlock ≠ some b := by
  intro b _ ht
  refine ⟨fun e => ?_, fun e => ?_⟩
  · subst e
    rcases ht with ht | ⟨cur, ht⟩
    · have := h.old; omega
    · have hb := h.box
      unfold Blk at hb
      rw [ht] at hb
      injection hb with hb
      injection hb with _ hb _
      exact absurd hb (by decide)
  · rcases ht with ht | ⟨cur, ht⟩
    · have := (h.row.lt e).1; omega
    · obtain ⟨cur', hb⟩ := h.row.ty e
      rw [ht] at hb
      injection hb with hb
      injection hb with _ hb _
      exact absurd hb (by decide)
/-- What a step must keep: readings, newness, rows of expressions. -/
structure KpX (B dx : Nat) (P P' : Nat → Nat → Prop) (X Y : World) : Prop where
  size : X.heap.size ≤ Y.heap.size
  gx : ∀ b o t, b < X.heap.size → GX B dx X b o t → GX B dx Y b o t
  nx : ∀ d b o t, b < X.heap.size → Ty B 37 X b → NX B P d X b o t → NX B P' d Y b o t
  fr : ∀ g cur, B ≤ g → X.heap[g]? = some (.cells cur 37 (0, 0)) → ∃ cur', Y.heap[g]? = some (.cells cur' 37 (0, 0)) ∧ cur'.size = cur.size
theorem KpX.top {B dx : Nat} {P P' : Nat → Nat → Prop} {X Y : World} (k : KpX B dx P P' X Y) (hP : ∀ g n, P g n → P' g n) {A1 : Option Addr} {l : List Ex} {d : Nat} (h : RowN B 37 5 P (NX B P d) X A1 l) : RowN B 37 5 P' (NX B P' d) Y A1 l :=
  h.over k.fr (fun _ _ h => .inl (hP _ _ h)) fun _ cur _ hg _ _ h => k.nx _ _ _ _ (Array.getElem?_eq_some_iff.1 hg).1 (.inr ⟨cur, hg⟩) h
theorem KpX.ofBelow {B dx : Nat} {P P' : Nat → Nat → Prop} {X Y : World} (hb : Below X.heap.size X Y) (hP : ∀ g n, P g n → P' g n) : KpX B dx P P' X Y :=
  ⟨hb.size, fun _ _ _ hl h => stabGX B dx _ _ _ _ _ hl hb h, fun _ _ _ _ hl ht h => (h.chg (Chg.ofBelow hb fun _ => True) (fun _ _ _ => trivial) hl ht).mono hP, fun _ cur _ h => ⟨cur, (hb.block _ (Array.getElem?_eq_some_iff.1 h).1).trans h, rfl⟩⟩
theorem KpX.ofChg {B dx : Nat} {F : Nat → Prop} {P P' : Nat → Nat → Prop} {X Y : World} (hc : Chg X Y F) (hF : ∀ b, b < X.heap.size → Ty B 37 X b → F b) (hP : ∀ g n, P g n → P' g n) : KpX B dx P P' X Y :=
  ⟨hc.size, fun _ _ _ hl h => h.chg hc hF hl, fun _ _ _ _ hl ht h => (h.chg hc hF hl ht).mono hP, fun g cur _ h => ⟨cur, (hc.block g (Array.getElem?_eq_some_iff.1 h).1 (hF g (Array.getElem?_eq_some_iff.1 h).1 (.inr ⟨cur, h⟩))).trans h, rfl⟩⟩
theorem belowChg {w X Y : World} {F : Nat → Prop} (hb : Below w.heap.size w X) (hc : Chg X Y F) (hF : ∀ q, q < w.heap.size → F q) : Below w.heap.size w Y :=
  ⟨hc.os.trans hb.os, hc.tape.trans hb.tape, hc.output.trans hb.output, Nat.le_trans hb.size hc.size, fun q hq => (hc.block q (Nat.lt_of_lt_of_le hq hb.size) (hF q hq)).trans (hb.block q hq)⟩
/-- The lists in the first k elements of row g0 are new and wait. -/
def DoneK (B : Nat) (X : World) (L : List SlA) (g0 k : Nat) : Prop := ∀ j, j < k → ∃ A m c, X.cell? ⟨g0, j * 5 + 4, none⟩ = some (.slice A m c) ∧ (0 < m → ∃ g cur, A = some ⟨g, 0, none⟩ ∧ B ≤ g ∧ X.heap[g]? = some (.cells cur 37 (0, 0)) ∧ m * 5 ≤ cur.size ∧ Pend L g m)
/-- What waits while row g0 of n0 elements is worked on. -/
def PendW (g0 n0 : Nat) (L : List SlA) (g n : Nat) : Prop := (g = g0 ∧ n = n0) ∨ Pend L g n
theorem Pend.nil {g n : Nat} (h : Pend [] g n) : False := by
  obtain ⟨p, h, _⟩ := h
  cases h
/-- At the start: the copy alone waits. -/
theorem CtX.start {dx : Nat} {w X : World} {l : List Ex} {n c1 : Nat} {A1 : Option Addr} (hn : l.length = n) (hs : Tr.szL l ≤ 4000000) (hb : Below w.heap.size w X) (hr : RdE 5 (GX w.heap.size dx) X A1 c1 l) (hf : FreshRow X w.heap.size A1 (n * 5) 37) :
    CtX dx w ((X.alloc (.cells #[.slice A1 n c1] 35)).alloc (.cells #[.slice (some ⟨X.heap.size, 0, none⟩) 1 1] 220)) A1 c1 l (X.heap.size + 1) (Pend [⟨A1, n, c1⟩]) [⟨A1, n, c1⟩] [l] (.slice (some ⟨X.heap.size, 0, none⟩) 1 1) := by
  have b2 : Below X.heap.size X ((X.alloc (.cells #[.slice A1 n c1] 35)).alloc (.cells #[.slice (some ⟨X.heap.size, 0, none⟩) 1 1] 220)) := belowThen (belowAlloc _ _) (belowAlloc _ _)
  refine ⟨belowThen hb b2, hr.below (stabGX _ dx) b2, fun d h0 => ?_, ⟨hn.symm, hr.below (stabGX _ dx) b2, hf.below b2, trivial⟩, Blk.new1 X _ _ _, ⟨rfl, .inr ⟨X.heap.size, 1, _, rfl, hb.size, ((belowAlloc _ _).block X.heap.size (by simp)).trans (heap_alloc_new X _), Nat.le_refl _, by unfold maxLen; omega, rfl, rfl⟩⟩, ?_, by have := hb.size; omega, by simp only [Tr.wt1]; omega⟩
  · obtain ⟨g, cur, e, h1, h2, h3⟩ := (hf.below b2) (by omega)
    exact ⟨g, cur, e, h1, h2, by rw [hn]; exact h3, .inl ⟨_, List.mem_cons_self, e, hn.symm⟩⟩
  · intro h
    injection h with h
    simp at h
theorem RowN.done {B g0 n0 c dx : Nat} {S S' : Nat → Nat → Prop} {w : World} {A : Option Addr} {ts : List Ex} (hS : ∀ g n, S g n → (g = g0 ∧ n = n0) ∨ S' g n) (hd : ∀ j, j < n0 → ∃ A m c, w.cell? ⟨g0, j * 5 + 4, none⟩ = some (.slice A m c) ∧ (0 < m → ∃ g cur, A = some ⟨g, 0, none⟩ ∧ B ≤ g ∧ w.heap[g]? = some (.cells cur 37 (0, 0)) ∧ m * 5 ≤ cur.size ∧ S' g m)) {d : Nat} (hr : RdE 5 (GX B dx) w A c ts) (h : RowN B 37 5 S (NX B S d) w A ts) : RowN B 37 5 S' (NX B S' d) w A ts := by
  refine h.over (fun _ cur _ hc => ⟨cur, hc, rfl⟩) (fun g eA h => ?_) fun g cur eA hg j hj h => ?_
  · rcases hS _ _ h with ⟨rfl, en⟩ | h
    · refine .inr fun j hj => ?_
      cases d with
      | zero => trivial
      | succ d1 =>
        obtain ⟨A3, m, c3, k1, k2⟩ := hd j (by omega)
        obtain ⟨b9, o9, e9, _, hx⟩ := hr.one hj
        rw [eA] at e9
        injection e9 with e9
        injection e9 with p1 p2 _
        subst p1 p2
        cases dx with
        | zero => exact hx.elim
        | succ dx1 =>
          obtain ⟨_, _, _, _, _, _, u, y4, A5, c5, eu, _⟩ := hx
          subst eu
          rw [Nat.zero_add, k1] at y4
          injection y4 with y4
          injection y4 with _ y5 _
          exact ⟨A3, c3, by rw [← y5]; exact k1, RowN.wait y5 k2⟩
    · exact .inl h
  · obtain ⟨b9, o9, e9, _, hx⟩ := hr.one hj
    rw [eA] at e9
    injection e9 with e9
    injection e9 with p1 p2 _
    subst p1 p2
    rw [Nat.zero_add] at hx
    exact NX.done hS hd hx h
section
variable {dx : Nat} {w X : World} {A1 : Option Addr} {c1 : Nat} {l : List Ex} {z : Nat} {L : List SlA} {S : List (List Ex)} {v : Value} {g0 n0 : Nat}
/-- A row is done: it waits no longer. -/
theorem CtX.finish (h : CtX dx w X A1 c1 l z (PendW g0 n0 L) L S v) (hd : DoneK w.heap.size X L g0 n0) : CtX dx w X A1 c1 l z (Pend L) L S v :=
  ⟨h.bel, h.rd, fun d => RowN.done (fun _ _ h => h) hd h.rd (h.top d), h.stk, h.box, h.row, h.ne, h.old, h.sz⟩
theorem CtX.below {P : Nat → Nat → Prop} {Y : World} (h : CtX dx w X A1 c1 l z P L S v) (hb : Below X.heap.size X Y) : CtX dx w Y A1 c1 l z P L S v :=
  ⟨belowThen h.bel hb, h.rd.below (stabGX _ dx) hb, fun d => (KpX.ofBelow (dx := dx) hb fun _ _ h => h).top (fun _ _ h => h) (h.top d), h.stk.over hb.size (fun _ _ _ hl h => stabGX _ dx _ _ _ _ _ hl hb h) (fun g cur _ hg => ⟨cur, (hb.block g (Array.getElem?_eq_some_iff.1 hg).1).trans hg, rfl⟩), h.box.below' hb, h.row.below hb, h.ne, h.old, h.sz⟩
/-- The stack and its box change, nothing else. -/
theorem CtX.stack {P P' : Nat → Nat → Prop} {Y : World} {F : Nat → Prop} {L' : List SlA} {S' : List (List Ex)} {v' : Value} (h : CtX dx w X A1 c1 l z P L S v) (hc : Chg X Y F) (hF : ∀ b, b ≠ z ∧ v.ownBlock ≠ some b → F b) (hP : ∀ g n, P g n → P' g n) (hstk : StkL w.heap.size 37 5 (GX w.heap.size dx) Y L' S') (hbx : Blk Y z 220 #[v']) (hrow : OwnSX Y w.heap.size v' L'.reverse) (hne : v'.ownBlock ≠ some z) (hsz : Tr.wt1 S' ≤ 8000001) : CtX dx w Y A1 c1 l z P' L' S' v' := by
  have K : KpX w.heap.size dx P P' X Y := KpX.ofChg hc (fun b hl ht => hF b (h.apart b hl ht)) hP
  exact ⟨belowChg h.bel hc fun q hq => hF q ⟨by have := h.old; omega, fun e => by have := (h.row.lt e).1; omega⟩, h.rd.over K.size K.gx, fun d => K.top hP (h.top d), hstk, hbx, hrow, hne, h.old, hsz⟩
end
section
variable {dx : Nat} {w X X1 : World} {A1 : Option Addr} {c1 : Nat} {l : List Ex} {z : Nat} {L : List SlA} {S : List (List Ex)} {v : Value} {g0 n0 c0 k n4 c4 c' : Nat} {a : List Ex} {A4 A' : Option Addr} {Lr : List (List Value)}
/-- One element's list is renewed. -/
theorem CtX.renew (h : CtX dx w X A1 c1 l z (PendW g0 n0 L) L S v) (hrow : RdE 5 (GX w.heap.size dx) X (some ⟨g0, 0, none⟩) c0 a) (hfr : FreshRow X w.heap.size (some ⟨g0, 0, none⟩) (n0 * 5) 37) (hd : DoneK w.heap.size X L g0 k) (hk : k < a.length) (hn0 : a.length = n0)
    (hp : X.cell? ⟨g0, k * 5 + 4, none⟩ = some (.slice A4 n4 c4)) (hr4 : RdE 5 (GX w.heap.size dx) X A4 c4 a[k].fst) (hn4 : a[k].fst.length = n4) (hLr : Lr.length = n4) (hraw : RdE 5 (Raw 5) X A4 c4 Lr) (hb : Below X.heap.size X X1) (hraw' : RdE 5 (Raw 5) X1 A' c' Lr) (hf : FreshRow X1 X.heap.size A' (n4 * 5) 37) :
    ∃ Y, X1.setCell ⟨g0, k * 5 + 4, none⟩ (.slice A' n4 c') = Y ∧ CtX dx w Y A1 c1 l z (PendW g0 n0 (pshS ⟨A', n4, c'⟩ L)) L S v ∧ RdE 5 (GX w.heap.size dx) Y (some ⟨g0, 0, none⟩) c0 a ∧ FreshRow Y w.heap.size (some ⟨g0, 0, none⟩) (n0 * 5) 37 ∧ DoneK w.heap.size Y (pshS ⟨A', n4, c'⟩ L) g0 (k + 1) ∧ RdE 5 (GX w.heap.size dx) Y A' c' a[k].fst ∧ FreshRow Y w.heap.size A' (n4 * 5) 37 := by
  refine ⟨_, rfl, ?_⟩
  have hBX := h.bel.size
  have hpX1 : X1.cell? ⟨g0, k * 5 + 4, none⟩ = some (.slice A4 n4 c4) := (hb.cell (World.block_lt_of_cell? _ _ hp)).trans hp
  obtain ⟨g9, cur0, e9, hg0B, hcur0, _⟩ := hfr (by omega)
  injection e9 with e9
  injection e9 with e9 _ _
  subst e9
  have hg0l : g0 < X.heap.size := (Array.getElem?_eq_some_iff.1 hcur0).1
  have hP : ∀ g n, PendW g0 n0 L g n → PendW g0 n0 (pshS ⟨A', n4, c'⟩ L) g n := fun g n q => q.imp id Pend.psh
  have hnew : 0 < n4 → ∃ g cur, A' = some ⟨g, 0, none⟩ ∧ w.heap.size ≤ g ∧ X1.heap[g]? = some (.cells cur 37 (0, 0)) ∧ n4 * 5 ≤ cur.size ∧ Pend (pshS ⟨A', n4, c'⟩ L) g n4 := fun h0 => by
    obtain ⟨g, cur, e1, e2, e3, e4⟩ := hf (by omega)
    exact ⟨g, cur, e1, by omega, e3, e4, Pend.top (p := ⟨A', n4, c'⟩) h0 e1⟩
  have K1 : KpX w.heap.size dx (PendW g0 n0 L) (PendW g0 n0 (pshS ⟨A', n4, c'⟩ L)) X X1 := KpX.ofBelow hb hP
  have K : KpX w.heap.size dx (PendW g0 n0 L) (PendW g0 n0 (pshS ⟨A', n4, c'⟩ L)) X (X1.setCell ⟨g0, k * 5 + 4, none⟩ (.slice A' n4 c')) :=
    ⟨by simpa using hb.size, fun b o t hl q => putX hLr hp hraw hb hraw' hf hBX hl q, fun d b o t hl ht q => NX.put hpX1 (fun h0 => by
      obtain ⟨g, cur, e1, e2, e3, e4, e5⟩ := hnew h0
      exact ⟨g, cur, e1, e2, e3, e4, .inr e5⟩) (K1.nx d b o t hl ht q), freshPut hb⟩
  have hc : Chg X (X1.setCell ⟨g0, k * 5 + 4, none⟩ (.slice A' n4 c')) (fun q => q ≠ g0) := (Chg.ofBelow hb _).trans (chgSet16 _ _ _ _) fun _ _ h => h
  have hz := h.apart g0 hg0l (.inr ⟨cur0, hcur0⟩)
  have hR : RdE 5 (GX w.heap.size dx) (X1.setCell ⟨g0, k * 5 + 4, none⟩ (.slice A' n4 c')) A' c' a[k].fst := by
    have hrawX1 : RdE 5 (Raw 5) X1 A4 c4 Lr := hraw.below (fun _ _ _ _ _ hl hb h j hj => (hb.cell hl).trans (h j hj)) hb
    have H := fun d l (hs : SlE 5 (GX w.heap.size d) X1 (.slice A4 n4 c4) l) => GX.row hLr hrawX1 hraw' (hf.mono hBX) (Below.refl _ _) d l hs
    obtain ⟨A9, c9, e, hr⟩ := H dx a[k].fst ⟨A4, c4, by rw [hn4], hr4.below (stabGX _ dx) hb⟩
    injection e with e1 _ e3
    subst e1 e3
    exact hr.over (by simp) fun b o x _ hx => hx.put hpX1 H
  have hF : FreshRow (X1.setCell ⟨g0, k * 5 + 4, none⟩ (.slice A' n4 c')) w.heap.size A' (n4 * 5) 37 := (hf.mono hBX).over fun g cur _ hg => heapSet _ hg
  refine ⟨⟨belowChg h.bel hc fun q hq => by show q ≠ g0; omega, h.rd.over K.size K.gx, fun d => K.top hP (h.top d), h.stk.over K.size K.gx K.fr, (hc.block z h.box.lt (fun e => hz.1 e.symm)).trans h.box, h.row.chg hc fun g hg e => hz.2 (e ▸ hg), h.ne, h.old, h.sz⟩, hrow.over K.size K.gx, hfr.over K.fr, fun j hj => ?_, hR, hF⟩
  by_cases e : j = k
  · subst e
    refine ⟨A', n4, c', World.cell?_setCell_same _ _ _ hpX1, fun h0 => ?_⟩
    obtain ⟨g, cur, e1, e2, e3, e4, e5⟩ := hnew h0
    obtain ⟨cur', q1, q2⟩ := heapSet (g := g0) (i := j * 5 + 4) (.slice A' n4 c') e3
    exact ⟨g, cur', e1, e2, q1, by omega, e5⟩
  · obtain ⟨A, m, c, q1, q2⟩ := hd j (by omega)
    refine ⟨A, m, c, (World.cell?_setCell_other _ _ _ _ fun e' => ?_).trans ((hb.cell (World.block_lt_of_cell? _ _ q1)).trans q1), fun h0 => ?_⟩
    · injection e' with _ e' _
      omega
    · obtain ⟨g, cur, e1, e2, e3, e4, e5⟩ := q2 h0
      obtain ⟨cur', s1, s2⟩ := freshPut (B := w.heap.size) (g0 := g0) (i := k * 5 + 4) (v := .slice A' n4 c') hb g cur e2 e3
      exact ⟨g, cur', e1, e2, s1, by omega, e5.psh⟩
end
end Go.Proofs.YtiaendggmamnkaaGreatDoor

namespace Go.Proofs.YtiaendggmamnkaaGreatDoor
open Go Go.RowKit

set_option maxRecDepth 100000 in
theorem iRenewX {g o n c : Nat} {A : Option Addr} (Lr : List (List Value)) (hL : Lr.length = n) (hs : n ≤ 4000000) (X : World) (hp : X.cell? ⟨g, o + 4, none⟩ = some (.slice A n c)) (hz : X.frozen? ⟨g, o + 4, none⟩ = false) (hr : RdE 5 (Raw 5) X A c Lr) :
    Calls Tryz.prog 122 #[.pointer (some ⟨g, o, none⟩)] X fun e Y => e = .returned (.tuple #[]) ∧ ∃ X1 A' c', Below X.heap.size X X1 ∧ RdE 5 (Raw 5) X1 A' c' Lr ∧ FreshRow X1 X.heap.size A' (n * 5) 37 ∧ Y = X1.setCell ⟨g, o + 4, none⟩ (.slice A' n c') := by
  have HC := Lib.hid (iCopyRX Lr n c hL hs A X hr)
  have HP := Lib.hid (And.intro hp hz)
  have hg := World.block_lt_of_cell? _ _ hp
  clear hr hL hs
  go_enter Tryz.func122, Tryz.ntmps122
  go_wp2_with fail
  refine HC.out.mono ?_
  rintro e X1 ⟨v, rfl, A', c', rfl, h1, h2, h3⟩
  have k1 := (h3.cell (p := ⟨g, o + 4, none⟩) hg).trans HP.out.1
  have k2 := (h3.frozen (p := ⟨g, o + 4, none⟩) hg).trans HP.out.2
  have HF := Lib.hid (And.intro h3 (And.intro h1 h2))
  clear h1 h2 h3
  go_wp2_with fail
  go_end0
  exact ⟨rfl, X1, A', c', HF.out.1, HF.out.2.1, HF.out.2.2, rfl⟩
end Go.Proofs.YtiaendggmamnkaaGreatDoor
