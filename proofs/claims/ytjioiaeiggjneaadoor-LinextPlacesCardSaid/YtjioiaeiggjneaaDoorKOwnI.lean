/-
  Words for rows of integers that the call itself owns, at this program's numbers of the types: such a row, append onto it, what a call that makes one gives.
-/
import Derived.Test.YtjioiaeiggjneaaDoorKChg
import Derived.Test.YtjioiaeiggjneaaDoorProg
import Derived.KernelRfl
import Derived.OwnWalk
namespace Go.Proofs.YtjioiaeiggjneaaDoor
open Go.RowKit

theorem infoInt : (Tryd.prog.info? 3).map (fun i => (i.zero, i.size, i.bytes)) = some (some (.int .i64 0), 1, 8) := by kernel_rfl
/-- v is a row of the call's own (from block base on) that holds l. -/
def OwnI (w : World) (base : Nat) (v : Value) (l : List Int) : Prop := w.ownsRow base 3 1 v l.length (iv l)
theorem OwnI.alloc {w : World} {base : Nat} {v : Value} {l : List Int} (h : OwnI w base v l) (o : Obj) : OwnI (w.alloc o) base v l := World.ownsRow.alloc h o
theorem OwnI.made (w : World) (base : Nat) (h : base ≤ w.heap.size) : OwnI (w.alloc (.cells #[] 3)) base (.slice (some ⟨w.heap.size, 0, none⟩) 0 0) [] := World.ownsRow_made w #[] 0 h (Nat.zero_le _) rfl
theorem OwnI.nil (w : World) (base : Nat) : OwnI w base (.slice none 0 0) [] := World.ownsRow_nil _ _ _ _
theorem OwnI.rd {w : World} {base : Nat} {v : Value} {l : List Int} (h : OwnI w base v l) : ∃ A c, v = .slice A l.length c ∧ Rd w A c l ∧ (∀ ad, A = some ad → base ≤ ad.block) := Rd.ofOwn h

theorem stepA {a b c : World} {o : Obj} (h : Below a.heap.size a b) (k : Below a.heap.size (b.alloc o) c) : Below a.heap.size a c := (h.alloc h.size o).trans k
theorem stepA0 {a c : World} {o : Obj} (k : Below a.heap.size (a.alloc o) c) : Below a.heap.size a c := stepA (Below.refl _ a) k

/-- append of integers onto a row of the call's own. -/
theorem appI (w : World) {ops : Array Oper} {rest : List Oper} {o : Oper} {a : Act} {Q : Exit → Act → World → Prop} (hgd : o.guard = none) (s x : Operand)
    (ho : o.op = .call { callee := .builtin .append, args := #[s, x], argTypes := #[25, 25] })
    (base : Nat) (v : Value) (l : List Int) (hs : a.eval s = v) (hown : OwnI w base v l)
    (A : Option Addr) (m c : Nat) (news : List Int) (hx : a.eval x = .slice A m c) (hm : m = news.length) (hr : Rd w A c news)
    (hb : l.length + news.length ≤ 1000000) (hbase : base ≤ w.heap.size)
    (h : ∀ v' w', OwnI w' base v' (l ++ news) → OwnI w' base v l → Below base w w' → wpList Tryd.prog ops Q rest (a.put o.dst v') w') :
    wpList Tryd.prog ops Q (o :: rest) a w := by
  obtain ⟨i0, hi, hz0, hz1, hz2⟩ := info_parts infoInt
  refine wpList_app w hgd s x 25 ho base 3 i0 _ 8 Tryd.underlying25 hi hz0 hz1 hz2 rfl v l.length (iv l) hs hown A m c (iv news) hx (by simpa using hm) hr (ivOne _) (by omega) (by unfold maxLen; omega) hbase fun v' w' h1 h2 h3 _ => h v' w' ?_ h2 ?_
  · unfold OwnI iv
    rw [List.length_append, List.map_append, ← hm]
    exact h1
  · exact (Below.refl base w).grown h3 hbase fun k hk => (World.ownsRow.lt hown k hk).1

/-- The call returns a slice that reads as l; nothing that was in memory has changed. -/
def GivesL (l : List Int) (w : World) (e : Ending) (w' : World) : Prop := ∃ A c, e = .returned (.slice A l.length c) ∧ Rd w' A c l ∧ Below w.heap.size w w'

end Go.Proofs.YtjioiaeiggjneaaDoor
