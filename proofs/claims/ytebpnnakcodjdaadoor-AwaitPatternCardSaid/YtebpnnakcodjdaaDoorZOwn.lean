/-
  Words for slices, without any program: a slice that reads as a list of cells, nil let in; a row that the call owns; append onto such a row.
-/
import Derived.WalkKit
import Derived.OwnWalk
import Derived.Maps.AppendAt
import Derived.Deep.Draws
import Derived.Lib.Hide
import Derived.Laws.OwnMore
import Derived.Test.YtebpnnakcodjdaaDoorProg
import Derived.KernelRfl
import Derived.Laws.Rows
import Derived.Lib.SmallJoins
namespace Go.Proofs.YtebpnnakcodjdaaDoor
open Go.RowKit

/-- In w the slice with address A, capacity c and as many elements as xs reads as the cells xs. -/
structure Rds (w : World) (A : Option Addr) (c : Nat) (xs : List Value) : Prop where
  le : xs.length ≤ c
  max : c ≤ maxLen
  at_ : 0 < xs.length → ∃ ad, A = some ad ∧ ad.block < w.heap.size ∧ ∀ j u, xs[j]? = some u → w.cell? (ad.add j) = some u

theorem addBlock (a : Addr) (i : Nat) : (a.add i).block = a.block := by unfold Addr.add; split <;> rfl
theorem addAdd (a : Addr) (i j : Nat) : (a.add i).add j = a.add (i + j) := by
  unfold Addr.add
  by_cases hi : i = 0 <;> by_cases hj : j = 0 <;> simp [hi, hj, Nat.add_assoc]

section
variable {w w' : World} {A : Option Addr} {c : Nat} {xs : List Value}
theorem Rds.nil : Rds w none 0 [] := ⟨Nat.zero_le _, Nat.zero_le _, fun h => absurd h (by simp)⟩
theorem Rds.one (h : Rds w A c xs) {k : Nat} (hk : k < xs.length) : ∃ ad, A = some ad ∧ ad.block < w.heap.size ∧ w.cell? (ad.add k) = some xs[k] := by
  obtain ⟨ad, e, hb, hc⟩ := h.at_ (by omega)
  exact ⟨ad, e, hb, hc k _ (List.getElem?_eq_getElem hk)⟩
theorem Rds.below (h : Rds w A c xs) (hb : Below w.heap.size w w') : Rds w' A c xs :=
  ⟨h.le, h.max, fun hn => by
    obtain ⟨ad, e, hl, hc⟩ := h.at_ hn
    exact ⟨ad, e, Nat.lt_of_lt_of_le hl hb.size, fun j u hu => (hb.cell (by rw [addBlock]; exact hl)).trans (hc j u hu)⟩⟩
theorem Rds.drew (h : Rds w A c xs) : Rds w.drew A c xs := ⟨h.le, h.max, h.at_⟩
theorem Rds.drewN (h : Rds w A c xs) (n : Nat) : Rds (w.drewN n) A c xs := ⟨h.le, h.max, h.at_⟩
theorem Rds.other (h : Rds w A c xs) {g : Nat} (hg : w.grownBy w' (some g)) (hne : ∀ ad, A = some ad → 0 < xs.length → ad.block ≠ g) : Rds w' A c xs :=
  ⟨h.le, h.max, fun hn => by
    obtain ⟨ad, e, hl, hc⟩ := h.at_ hn
    exact ⟨ad, e, Nat.lt_of_lt_of_le hl hg.size, fun j u hu => hg.cell (hc j u hu) (by rw [addBlock]; intro hh; exact hne ad e hn (by injection hh))⟩⟩
theorem Rds.drop (h : Rds w A c xs) (k : Nat) (hk : k ≤ xs.length) : Rds w (if c = k then A else A.map (·.add k)) (c - k) (xs.drop k) := by
  refine ⟨by have := h.le; rw [List.length_drop]; omega, by have := h.max; omega, fun hn => ?_⟩
  rw [List.length_drop] at hn
  obtain ⟨ad, rfl, hb, hc⟩ := h.at_ (by omega)
  rw [if_neg (by have := h.le; omega)]
  refine ⟨ad.add k, rfl, by rw [addBlock]; exact hb, fun j u hu => ?_⟩
  rw [addAdd]
  exact hc _ u (by rw [← hu, List.getElem?_drop])
theorem Rds.take (h : Rds w A c xs) (k : Nat) (hk : k ≤ xs.length) : Rds w A c (xs.take k) := by
  refine ⟨by have := h.le; rw [List.length_take]; omega, h.max, fun hn => ?_⟩
  rw [List.length_take] at hn
  obtain ⟨ad, e, hb, hc⟩ := h.at_ (by omega)
  refine ⟨ad, e, hb, fun j u hu => hc j u ?_⟩
  rw [List.getElem?_take] at hu
  split at hu <;> simp_all
theorem Rds.ofOwn {base : Nat} {e : TypeId} {v : Value} {n : Nat} (h : w.ownsRow base e 1 v n xs) : ∃ A c, v = .slice A xs.length c ∧ n = xs.length ∧ Rds w A c xs ∧ (∀ ad, A = some ad → base ≤ ad.block) := by
  have hn : xs.length = n := by simpa using h.1
  subst hn
  rcases h.2 with ⟨rfl, h0⟩ | ⟨g, cap, cur, rfl, hb, hg, hc, hm, hs, ht⟩
  · have : xs = [] := List.eq_nil_of_length_eq_zero h0
    subst this
    exact ⟨none, 0, rfl, rfl, Rds.nil, by simp⟩
  · refine ⟨some ⟨g, 0, none⟩, cap, rfl, rfl, ⟨hc, hm, fun _ => ⟨_, rfl, ?_, fun j u hu => h.cells (g := g) rfl j u hu⟩⟩, fun ad h => by injection h with h; subst h; exact hb⟩
    exact (h.lt g rfl).2
end

/-- Cells just laid read as they were laid. -/
theorem Rds.lit (w : World) (cs : List Value) (e : TypeId) (h : cs.length ≤ maxLen) : Rds (w.alloc (.cells cs.toArray e)) (some ⟨w.heap.size, 0, none⟩) cs.length cs :=
  ⟨Nat.le_refl _, h, fun _ => ⟨_, rfl, by simp, fun j u hu => by
    rw [Addr.add_lit, Nat.zero_add]
    rw [cell_of_row (w.alloc (.cells cs.toArray e)) w.heap.size j cs.toArray e (0, 0) (heap_alloc_new w _)]
    simpa using hu⟩⟩

section
variable {P : Program} (w : World)

/-- Where append has put the row: in place, in a new block, or nothing was appended. -/
def Moved (w : World) (v v' : Value) (n m : Nat) : Prop :=
  (∃ g cap, v = .slice (some ⟨g, 0, none⟩) n cap ∧ v' = .slice (some ⟨g, 0, none⟩) (n + m) cap) ∨ v'.ownBlock = some w.heap.size ∨ (v' = v ∧ m = 0)

/-- append onto an owned row: the new row; the old value still owns what it owned. -/
theorem runApp (base : Nat) (t ty e : TypeId) (i : TypeInfo) (z : Value) (bytes : Nat) (ht : P.underlying t = some (.slice e)) (hi : P.info? e = some i) (hz : i.zero = some z)
    (hsize : i.size = 1) (hby : i.bytes = bytes) (hzs : z.cells.size = 1)
    (v : Value) (n : Nat) (xs : List Value) (hown : w.ownsRow base e 1 v n xs)
    (A : Option Addr) (m c : Nat) (news : List Value) (hm : m = news.length) (hr : Rds w A c news) (h1 : ∀ u ∈ news, u.oneCell' = true)
    (hbytes : (n + m) * bytes ≤ 140737488355328) (h63 : n + m ≤ maxLen) (hbase : base ≤ w.heap.size) :
    ∃ v' w', (Builtin.append_ #[t, t] ty #[v, .slice A m c]).run P w = .ok v' w' ∧ w'.ownsRow base e 1 v' (n + m) (xs ++ news) ∧ w'.ownsRow base e 1 v n xs ∧ w.grownBy w' v.ownBlock ∧
      Moved w v v' n m := by
  subst hm
  subst hby
  have hsmall : n + news.length ≤ 9223372036854775807 := by simp only [maxLen] at h63; omega
  have hxl : xs.length = n := by simpa using hown.1
  rcases A with _ | a
  · have hn : news = [] := by
      rcases Nat.eq_zero_or_pos news.length with h0 | h0
      · exact List.eq_nil_of_length_eq_zero h0
      · obtain ⟨ad, h, _⟩ := hr.at_ h0
        cases h
    subst hn
    refine ⟨v, w, ?_, by simpa using hown, hown, World.grownBy.refl w _, .inr (.inr ⟨rfl, rfl⟩)⟩
    rcases hown.2 with ⟨rfl, rfl⟩ | ⟨g, cap, cur, rfl, _, _, hnc, _⟩
    · simp [Builtin.append_, run_underlying ht, sizeOf, typeInfo, hi, Builtin.lenOf, Builtin.firstCells]
    · simp [Builtin.append_, run_underlying ht, sizeOf, typeInfo, hi, Builtin.lenOf, Builtin.firstCells, hnc, storeCells]
  · have hnews : ∀ j u, news[j]? = some u → w.cell? (a.add j) = some u := by
      intro j u hu
      have : 0 < news.length := by have := (List.getElem?_eq_some_iff.1 hu).1; omega
      obtain ⟨ad, h, _, hc⟩ := hr.at_ this
      injection h with h
      subst h
      exact hc j u hu
    obtain ⟨v', w', hrun, o1, g1, k1, b1⟩ := run_append_own_at (P := P) w base t ty e i z 1 i.bytes ht hi hz hsize rfl hzs (by omega) v n xs hown a news.length c news (by simp) hnews h1 h63 hbytes hbase
    suffices h : w'.ownsRow base e 1 v n xs ∧ Moved w v v' n news.length from ⟨v', w', hrun, o1, h.1, g1, h.2⟩
    rcases hown.2 with ⟨rfl, rfl⟩ | ⟨g, cap, cur, rfl, hbg, hg, hnc, hcm, hcs, htake⟩
    · have : xs = [] := List.eq_nil_of_length_eq_zero hxl
      subst this
      refine ⟨World.ownsRow_nil _ _ _ _, ?_⟩
      rcases Nat.eq_zero_or_pos news.length with hm0 | hm0
      · exact .inr (.inr ⟨k1.2 ⟨rfl, hm0⟩, hm0⟩)
      · rcases b1 with b1 | b1
        · rcases o1.2 with ⟨_, hz⟩ | ⟨g, cap, cur, hv, _⟩
          · omega
          · rw [hv] at b1; simp [Value.ownBlock] at b1
        · exact .inr (.inl b1)
    · by_cases hroom : n + news.length ≤ cap
      · have hfit : n * i.size + news.length ≤ cur.size := by rw [hcs, hsize]; omega
        have hrr := run_append_room (P := P) w t ty e i ht hi g n cap cur hg a news.length c news (by rw [hsize]; omega) hnews h1 hroom hfit
        rw [hrun] at hrr
        injection hrr with hv hw
        rw [hw, hv]
        refine ⟨⟨hown.1, .inr ⟨g, cap, _, rfl, hbg, setRow_heap w g cur _ e _ hg, hnc, hcm, ?_, ?_⟩⟩, .inl ⟨g, cap, rfl, rfl⟩⟩
        · simp only [List.size_toArray, List.length_append, List.length_take, List.length_drop, Array.length_toList, hsize] at hfit ⊢
          omega
        · simp only [hsize, Nat.mul_one] at htake ⊢
          rw [htake, List.append_assoc, ← hxl]
          exact List.take_left
      · have hrr := run_append_grow (P := P) w t ty e i z ht hi hz ⟨g, 0, none⟩ n cap xs (by rw [hsize]; omega) (hown.cells (g := g) rfl) a news.length c news (by rw [hsize]; omega) hnews (by omega) (by omega) (growslice_fits (by omega) hbytes)
        rw [hrun] at hrr
        injection hrr with hv hw
        rw [hw, hv]
        exact ⟨(World.ownsRow.drew hown).alloc _, .inr (.inl rfl)⟩

theorem wpList_app {ops : Array Oper} {rest : List Oper} {o : Oper} {a : Act} {Q : Exit → Act → World → Prop} (hgd : o.guard = none) (s x : Operand) (t : TypeId)
    (ho : o.op = .call { callee := .builtin .append, args := #[s, x], argTypes := #[t, t] })
    (base : Nat) (e : TypeId) (i : TypeInfo) (z : Value) (bytes : Nat) (ht : P.underlying t = some (.slice e)) (hi : P.info? e = some i) (hz : i.zero = some z)
    (hsize : i.size = 1) (hby : i.bytes = bytes) (hzs : z.cells.size = 1)
    (v : Value) (n : Nat) (xs : List Value) (hs : a.eval s = v) (hown : w.ownsRow base e 1 v n xs)
    (A : Option Addr) (m c : Nat) (news : List Value) (hx : a.eval x = .slice A m c) (hm : m = news.length) (hr : Rds w A c news) (h1 : ∀ u ∈ news, u.oneCell' = true)
    (hbytes : (n + m) * bytes ≤ 140737488355328) (h63 : n + m ≤ maxLen) (hbase : base ≤ w.heap.size)
    (h : ∀ v' w', w'.ownsRow base e 1 v' (n + m) (xs ++ news) → w'.ownsRow base e 1 v n xs → w.grownBy w' v.ownBlock → Moved w v v' n m → wpList P ops Q rest (a.put o.dst v') w') :
    wpList P ops Q (o :: rest) a w := by
  refine wpList_plain hgd fun K hK => ?_
  obtain ⟨v', w', hrun, h2, h3, h4, h5⟩ := runApp (P := P) w base t o.type e i z bytes ht hi hz hsize hby hzs v n xs hown A m c news hm hr h1 hbytes h63 hbase
  unfold Oper.wp execOp
  simp only [ho, resolve, invoke, builtin, Sem.run_bind, Sem.run_pure, Result.andThen_ok, List.map_toArray, List.map_cons, List.map_nil, hs, hx, hrun]
  exact hK _ _ (h v' w' h2 h3 h4 h5)
end

/-- The list of integers l, as cells. -/
abbrev iv (l : List Int) : List Value := l.map (Value.int .i64)
/-- The slice reads as the integers l. -/
def Rd (w : World) (A : Option Addr) (c : Nat) (l : List Int) : Prop := Rds w A c (iv l)
theorem ivOne (l : List Int) : ∀ u ∈ iv l, u.oneCell' = true := ints_oneCell .i64 l

section
variable {w w' : World} {A : Option Addr} {c : Nat} {l : List Int}
theorem Rd.nil : Rd w none 0 [] := Rds.nil
theorem Rd.le (h : Rd w A c l) : l.length ≤ c := by simpa using Rds.le h
theorem Rd.max (h : Rd w A c l) : c ≤ maxLen := Rds.max h
theorem Rd.one (h : Rd w A c l) {k : Nat} (hk : k < l.length) : ∃ ad, A = some ad ∧ ad.block < w.heap.size ∧ w.cell? (ad.add k) = some (.int .i64 l[k]) := by
  obtain ⟨ad, e, hb, hc⟩ := Rds.one h (k := k) (by simpa using hk)
  exact ⟨ad, e, hb, by simpa using hc⟩
theorem Rd.below (h : Rd w A c l) (hb : Below w.heap.size w w') : Rd w' A c l := Rds.below h hb
theorem Rd.drewN (h : Rd w A c l) (n : Nat) : Rd (w.drewN n) A c l := Rds.drewN h n
theorem Rd.drop (h : Rd w A c l) (k : Nat) (hk : k ≤ l.length) : Rd w (if c = k then A else A.map (·.add k)) (c - k) (l.drop k) := by
  have := Rds.drop h k (by simpa using hk)
  unfold Rd iv
  rwa [List.map_drop]
theorem Rd.take (h : Rd w A c l) (k : Nat) (hk : k ≤ l.length) : Rd w A c (l.take k) := by
  have := Rds.take h k (by simpa using hk)
  unfold Rd iv
  rwa [List.map_take]
theorem Rd.ofOwn {base : Nat} {e : TypeId} {v : Value} {n : Nat} (h : w.ownsRow base e 1 v n (iv l)) : ∃ A c, v = .slice A l.length c ∧ Rd w A c l ∧ (∀ ad, A = some ad → base ≤ ad.block) := by
  obtain ⟨A, c, hv, _, hr, hb⟩ := Rds.ofOwn h
  exact ⟨A, c, by simpa using hv, hr, hb⟩
end
theorem Rd.lit (w : World) (l : List Int) (e : TypeId) (h : l.length ≤ 65536) : Rd (w.alloc (.cells (iv l).toArray e)) (some ⟨w.heap.size, 0, none⟩) l.length l := by
  have := Rds.lit w (iv l) e (by simp [maxLen]; omega)
  simpa [Rd] using this

theorem belowDrewN {B : Nat} {a w : World} (h : Below B a w) (n : Nat) : Below B a (w.drewN n) := ⟨h.os, h.tape, h.output, h.size, h.block⟩
theorem belowN (w : World) (n : Nat) : Below w.heap.size w (w.drewN n) := belowDrewN (Below.refl _ _) n
theorem belowAlloc (w : World) (o : Obj) : Below w.heap.size w (w.alloc o) := (Below.refl _ w).alloc (Nat.le_refl _) o
/-- Two steps, each of which leaves what was there before it. -/
theorem belowThen {a b c : World} (h : Below a.heap.size a b) (k : Below b.heap.size b c) : Below a.heap.size a c := h.trans (k.mono h.size)
theorem retInt {k : IntKind} {a b : Int} (h : a = b) : Ending.returned (.int k a) = .returned (.int k b) := by rw [h]
theorem retB {a b : Bool} (h : a = b) : Ending.returned (.bool a) = .returned (.bool b) := by rw [h]
end Go.Proofs.YtebpnnakcodjdaaDoor

namespace Go.Proofs.YtebpnnakcodjdaaDoor
open Go.RowKit

/-- From w to w' the blocks of w that meet F have not changed. -/
structure Chg (w w' : World) (F : Nat → Prop) : Prop where
  os : w'.os = w.os
  tape : w'.tape = w.tape
  output : w'.output = w.output
  size : w.heap.size ≤ w'.heap.size
  block : ∀ k, k < w.heap.size → F k → w'.heap[k]? = w.heap[k]?

section
variable {a b c w w' : World} {F G : Nat → Prop}
theorem Chg.refl (w : World) (F : Nat → Prop) : Chg w w F := ⟨rfl, rfl, rfl, Nat.le_refl _, fun _ _ _ => rfl⟩
theorem Chg.trans (h : Chg a b F) (k : Chg b c G) (hG : ∀ i, i < a.heap.size → F i → G i) : Chg a c F :=
  ⟨k.os.trans h.os, k.tape.trans h.tape, k.output.trans h.output, Nat.le_trans h.size k.size, fun i hi hF => (k.block i (Nat.lt_of_lt_of_le hi h.size) (hG i hi hF)).trans (h.block i hi hF)⟩
theorem Chg.ofBelow (h : Below w.heap.size w w') (F : Nat → Prop) : Chg w w' F := ⟨h.os, h.tape, h.output, h.size, fun k hk _ => h.block k hk⟩
theorem Chg.below (h : Chg w w' F) (hF : ∀ k, k < w.heap.size → F k) : Below w.heap.size w w' := ⟨h.os, h.tape, h.output, h.size, fun k hk => h.block k hk (hF k hk)⟩
theorem Chg.mono (h : Chg w w' F) (hG : ∀ k, G k → F k) : Chg w w' G := ⟨h.os, h.tape, h.output, h.size, fun k hk hg => h.block k hk (hG k hg)⟩
theorem Chg.alloc (w : World) (o : Obj) (F : Nat → Prop) : Chg w (w.alloc o) F := Chg.ofBelow ((Below.refl _ w).alloc (Nat.le_refl _) o) F
theorem Chg.drewN (w : World) (n : Nat) (F : Nat → Prop) : Chg w (w.drewN n) F := Chg.ofBelow (belowN w n) F

theorem ownChg {base : Nat} {e : TypeId} {v : Value} {n : Nat} {xs : List Value} (h : w.ownsRow base e 1 v n xs) (hc : Chg w w' F) (hF : ∀ g, v.ownBlock = some g → F g) : w'.ownsRow base e 1 v n xs := by
  refine ⟨h.1, ?_⟩
  rcases h.2 with h2 | ⟨g, cap, cur, rfl, hb, hg, r⟩
  · exact .inl h2
  · exact .inr ⟨g, cap, cur, rfl, hb, (hc.block g (World.ownsRow.lt h g rfl).2 (hF g rfl)).trans hg, r⟩
theorem ownMono {base base' : Nat} {e : TypeId} {v : Value} {n : Nat} {xs : List Value} (h : w.ownsRow base e 1 v n xs) (hb : base' ≤ base) : w.ownsRow base' e 1 v n xs := by
  refine ⟨h.1, ?_⟩
  rcases h.2 with h2 | ⟨g, cap, cur, rfl, hg, r⟩
  · exact .inl h2
  · exact .inr ⟨g, cap, cur, rfl, Nat.le_trans hb hg, r⟩
theorem Rd.chg {A : Option Addr} {c : Nat} {l : List Int} (h : Rd w A c l) (hc : Chg w w' F) (hF : ∀ ad, A = some ad → 0 < l.length → F ad.block) : Rd w' A c l :=
  ⟨Rds.le h, Rds.max h, fun hn => by
    obtain ⟨ad, e, hl, hcell⟩ := Rds.at_ h hn
    refine ⟨ad, e, Nat.lt_of_lt_of_le hl hc.size, fun j u hu => (World.cell?_of_block ?_).trans (hcell j u hu)⟩
    rw [addBlock]
    exact hc.block _ hl (hF ad e (by simpa using hn))⟩
end

end Go.Proofs.YtebpnnakcodjdaaDoor

namespace Go.Proofs.YtebpnnakcodjdaaDoor
open Go.RowKit

theorem infoInt : (Tryd.prog.info? 3).map (fun i => (i.zero, i.size, i.bytes)) = some (some (.int .i64 0), 1, 8) := by kernel_rfl
/-- v is a row of the call's own (from block base on) that holds l. -/
def OwnI (w : World) (base : Nat) (v : Value) (l : List Int) : Prop := w.ownsRow base 3 1 v l.length (iv l)
theorem OwnI.alloc {w : World} {base : Nat} {v : Value} {l : List Int} (h : OwnI w base v l) (o : Obj) : OwnI (w.alloc o) base v l := World.ownsRow.alloc h o
theorem OwnI.made (w : World) (base : Nat) (h : base ≤ w.heap.size) : OwnI (w.alloc (.cells #[] 3)) base (.slice (some ⟨w.heap.size, 0, none⟩) 0 0) [] := World.ownsRow_made w #[] 0 h (Nat.zero_le _) rfl
theorem OwnI.nil (w : World) (base : Nat) : OwnI w base (.slice none 0 0) [] := World.ownsRow_nil _ _ _ _
theorem OwnI.rd {w : World} {base : Nat} {v : Value} {l : List Int} (h : OwnI w base v l) : ∃ A c, v = .slice A l.length c ∧ Rd w A c l ∧ (∀ ad, A = some ad → base ≤ ad.block) := Rd.ofOwn h

theorem stepA {a b c : World} {o : Obj} (h : Below a.heap.size a b) (k : Below a.heap.size (b.alloc o) c) : Below a.heap.size a c := (h.alloc h.size o).trans k
/-- append of integers onto a row of the call's own. -/
theorem appI (w : World) {ops : Array Oper} {rest : List Oper} {o : Oper} {a : Act} {Q : Exit → Act → World → Prop} (hgd : o.guard = none) (s x : Operand)
    (ho : o.op = .call { callee := .builtin .append, args := #[s, x], argTypes := #[54, 54] })
    (base : Nat) (v : Value) (l : List Int) (hs : a.eval s = v) (hown : OwnI w base v l)
    (A : Option Addr) (m c : Nat) (news : List Int) (hx : a.eval x = .slice A m c) (hm : m = news.length) (hr : Rd w A c news)
    (hb : l.length + news.length ≤ 1000000) (hbase : base ≤ w.heap.size)
    (h : ∀ v' w', OwnI w' base v' (l ++ news) → OwnI w' base v l → Below base w w' → wpList Tryd.prog ops Q rest (a.put o.dst v') w') :
    wpList Tryd.prog ops Q (o :: rest) a w := by
  obtain ⟨i0, hi, hz0, hz1, hz2⟩ := info_parts infoInt
  refine wpList_app w hgd s x 54 ho base 3 i0 _ 8 Tryd.underlying54 hi hz0 hz1 hz2 rfl v l.length (iv l) hs hown A m c (iv news) hx (by simpa using hm) hr (ivOne _) (by omega) (by unfold maxLen; omega) hbase fun v' w' h1 h2 h3 _ => h v' w' ?_ h2 ?_
  · unfold OwnI iv
    rw [List.length_append, List.map_append, ← hm]
    exact h1
  · exact (Below.refl base w).grown h3 hbase fun k hk => (World.ownsRow.lt hown k hk).1

end Go.Proofs.YtebpnnakcodjdaaDoor

namespace Go.Proofs.YtebpnnakcodjdaaDoor
open Go Go.RowKit

/-- Block b holds the cells cs. -/
def Blk (W : World) (b : Nat) (T : TypeId) (cs : Array Value) : Prop := W.heap[b]? = some (.cells cs T (0, 0))
section
variable {W W' : World} {b : Nat} {T : TypeId} {cs : Array Value}
theorem Blk.new (W : World) (T : TypeId) (cs : Array Value) : Blk (W.alloc (.cells cs T)) W.heap.size T cs := heap_alloc_new W _
theorem Blk.new1 (W : World) (o : Obj) (T : TypeId) (cs : Array Value) : Blk ((W.alloc o).alloc (.cells cs T)) (W.heap.size + 1) T cs := by
  have h := Blk.new (W.alloc o) T cs
  rwa [World.size_alloc] at h
theorem Blk.lt (h : Blk W b T cs) : b < W.heap.size := (Array.getElem?_eq_some_iff.1 h).1
theorem Blk.below {B : Nat} (h : Blk W b T cs) (hb : Below B W W') (hB : b < B) : Blk W' b T cs := (hb.block b hB).trans h
theorem Blk.below' (h : Blk W b T cs) (hb : Below W.heap.size W W') : Blk W' b T cs := h.below hb h.lt
theorem Blk.alloc (h : Blk W b T cs) (o : Obj) : Blk (W.alloc o) b T cs := h.below' ((Below.refl _ W).alloc (Nat.le_refl _) o)
theorem Blk.drew (h : Blk W b T cs) : Blk W.drew b T cs := h
theorem Blk.cell (h : Blk W b T cs) (i : Nat) : W.cell? ⟨b, i, none⟩ = cs[i]? := Joins.cell_of_block h i
theorem Blk.frozen (h : Blk W b T cs) (i : Nat) : W.frozen? ⟨b, i, none⟩ = false := Joins.unfrozen_of_block h i
theorem Blk.set (h : Blk W b T cs) (i : Nat) (v : Value) : Blk (W.setCell ⟨b, i, none⟩ v) b T (cs.setIfInBounds i v) := Joins.block_setCell h v
theorem Blk.other (h : Blk W b T cs) {g : Nat} (hg : b ≠ g) (i : Nat) (v : Value) : Blk (W.setCell ⟨g, i, none⟩ v) b T cs := (heap_setCell_other W ⟨g, i, none⟩ b v hg).trans h
/-- A result that lies in the block. -/
theorem Blk.res {P : Program} (h : Blk W b T cs) {fn : Func} {p : Tmp} {ty : TypeId} (hf : fn.results = #[.cell p ty]) (tmps : Array Value) (hp : tmps.getD p undef = .pointer (some ⟨b, 0, none⟩)) {d : TypeDesc}
    (hu : P.underlying ty = some d) (hd : (match d with | .struct _ | .array _ _ => true | _ => false) = true) (hi : (P.info? ty).map (·.size) = some cs.size) : (results fn tmps).run P W = .ok (.agg cs) W :=
  results_cell_row hf tmps W b T _ (0, 0) d hp h hu hd hi
/-- The same with a second result in a slot. -/
theorem Blk.res2 {P : Program} (h : Blk W b T cs) {fn : Func} {p u : Tmp} {ty : TypeId} (hf : fn.results = #[.cell p ty, .tmp u]) (tmps : Array Value) (hp : tmps.getD p undef = .pointer (some ⟨b, 0, none⟩)) {d : TypeDesc}
    (hu : P.underlying ty = some d) (hd : (match d with | .struct _ | .array _ _ => true | _ => false) = true) (hi : (P.info? ty).map (·.size) = some cs.size) : (results fn tmps).run P W = .ok (.tuple #[.agg cs, tmps.getD u undef]) W := by
  have hp' : tmps[p]?.getD undef = .pointer (some ⟨b, 0, none⟩) := by simpa using hp
  rw [results_cell_tmp hf]
  simp [hp', asAddr, run_loadVar_row W b T ty cs (0, 0) d h hu hd hi]
end
end Go.Proofs.YtebpnnakcodjdaaDoor
