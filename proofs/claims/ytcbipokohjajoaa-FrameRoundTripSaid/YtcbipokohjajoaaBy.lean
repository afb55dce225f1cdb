/-
  Words for slices of bytes: such a slice reads as a list of bytes; rows of bytes that the call itself owns; append onto such a row.
-/
import Derived.Test.YtcbipokohjajoaaSl
import Derived.Test.YtcbipokohjajoaaChg
import Derived.Test.YtcbipokohjajoaaOwnI
import Derived.Test.YtcbipokohjajoaaProg
import Derived.KernelRfl
import Derived.OwnWalk
import Derived.Laws.BytesArg
import Derived.Lib.Hide
namespace Go.Proofs.Ytcbipokohjajoaa
open Go.RowKit

/-- The bytes l, as cells. -/
abbrev bv (l : List UInt8) : List Value := l.map fun c => Value.int .u8 (c.toNat : Int)
/-- The slice reads as the bytes l. -/
def Rb (w : World) (A : Option Addr) (c : Nat) (l : List UInt8) : Prop := Rds w A c (bv l)
theorem bvOne (l : List UInt8) : ∀ u ∈ bv l, u.oneCell' = true := by
  intro u hu
  obtain ⟨c, _, rfl⟩ := List.mem_map.1 hu
  rfl
section
variable {w w' : World} {A : Option Addr} {c : Nat} {l : List UInt8}
theorem Rb.nil : Rb w none 0 [] := Rds.nil
theorem Rb.le (h : Rb w A c l) : l.length ≤ c := by simpa using Rds.le h
theorem Rb.max (h : Rb w A c l) : c ≤ maxLen := Rds.max h
theorem Rb.one (h : Rb w A c l) {k : Nat} (hk : k < l.length) : ∃ ad, A = some ad ∧ ad.block < w.heap.size ∧ w.cell? (ad.add k) = some (.int .u8 (l[k].toNat : Int)) := by
  obtain ⟨ad, e, hb, hc⟩ := Rds.one h (k := k) (by simpa using hk)
  exact ⟨ad, e, hb, by simpa using hc⟩
theorem Rb.below (h : Rb w A c l) (hb : Below w.heap.size w w') : Rb w' A c l := Rds.below h hb
theorem Rb.alloc (h : Rb w A c l) (o : Obj) : Rb (w.alloc o) A c l := h.below (belowAlloc w o)
theorem Rb.drewN (h : Rb w A c l) (n : Nat) : Rb (w.drewN n) A c l := Rds.drewN h n
theorem Rb.drop (h : Rb w A c l) (k : Nat) (hk : k ≤ l.length) : Rb w (if c = k then A else A.map (·.add k)) (c - k) (l.drop k) := by
  have := Rds.drop h k (by simpa using hk)
  unfold Rb bv
  rwa [List.map_drop]
theorem Rb.take (h : Rb w A c l) (k : Nat) (hk : k ≤ l.length) : Rb w A c (l.take k) := by
  have := Rds.take h k (by simpa using hk)
  unfold Rb bv
  rwa [List.map_take]
theorem Rb.chg (h : Rb w A c l) {F : Nat → Prop} (hc : Chg w w' F) (hF : ∀ ad, A = some ad → 0 < l.length → F ad.block) : Rb w' A c l :=
  ⟨Rds.le h, Rds.max h, fun hn => by
    obtain ⟨ad, e, hl, hcell⟩ := Rds.at_ h hn
    refine ⟨ad, e, Nat.lt_of_lt_of_le hl hc.size, fun j u hu => (World.cell?_of_block ?_).trans (hcell j u hu)⟩
    rw [addBlock]
    exact hc.block _ hl (hF ad e (by simpa using hn))⟩
theorem Rb.ofOwn {base : Nat} {e : TypeId} {v : Value} {n : Nat} (h : w.ownsRow base e 1 v n (bv l)) : ∃ A c, v = .slice A l.length c ∧ Rb w A c l ∧ (∀ ad, A = some ad → base ≤ ad.block) := by
  obtain ⟨A, c, hv, _, hr, hb⟩ := Rds.ofOwn h
  exact ⟨A, c, by simpa using hv, hr, hb⟩
end
theorem Rb.lit (w : World) (l : List UInt8) (e : TypeId) (h : l.length ≤ 65536) : Rb (w.alloc (.cells (bv l).toArray e)) (some ⟨w.heap.size, 0, none⟩) l.length l := by
  have := Rds.lit w (bv l) e (by simp [maxLen]; omega)
  simpa [Rb] using this
/-- One byte that has just been laid. -/
theorem Rb.lit1 (w : World) (x : Int) (c : UInt8) (hx : x = (c.toNat : Int)) (e : TypeId) : Rb (w.alloc (.cells #[.int .u8 x] e)) (some ⟨w.heap.size, 0, none⟩) 1 [c] := by
  subst hx
  exact Rb.lit w [c] e (by simp)

theorem infoB : (Try.prog.info? 5).map (fun i => (i.zero, i.size, i.bytes)) = some (some (.int .u8 0), 1, 1) := by kernel_rfl
/-- v is a row of the call's own (from block base on) that holds the bytes l. -/
def OwnB (w : World) (base : Nat) (v : Value) (l : List UInt8) : Prop := w.ownsRow base 5 1 v l.length (bv l)
section
variable {w w' : World} {base : Nat} {v : Value} {l : List UInt8}
theorem OwnB.alloc (h : OwnB w base v l) (o : Obj) : OwnB (w.alloc o) base v l := World.ownsRow.alloc h o
theorem OwnB.made (w : World) (base : Nat) (h : base ≤ w.heap.size) : OwnB (w.alloc (.cells #[] 5)) base (.slice (some ⟨w.heap.size, 0, none⟩) 0 0) [] := World.ownsRow_made w #[] 0 h (Nat.zero_le _) rfl
theorem OwnB.nil (w : World) (base : Nat) : OwnB w base (.slice none 0 0) [] := World.ownsRow_nil _ _ _ _
theorem OwnB.rd (h : OwnB w base v l) : ∃ A c, v = .slice A l.length c ∧ Rb w A c l ∧ (∀ ad, A = some ad → base ≤ ad.block) := Rb.ofOwn h
theorem OwnB.chg (h : OwnB w base v l) {F : Nat → Prop} (hc : Chg w w' F) (hF : ∀ g, v.ownBlock = some g → F g) : OwnB w' base v l := ownChg h hc hF
theorem OwnB.below (h : OwnB w base v l) (hb : Below w.heap.size w w') : OwnB w' base v l := ownChg h (Chg.ofBelow hb (fun _ => True)) fun _ _ => trivial
theorem OwnB.mono {base' : Nat} (h : OwnB w base v l) (hb : base' ≤ base) : OwnB w base' v l := ownMono h hb
theorem OwnB.lt (h : OwnB w base v l) {g : Nat} (hg : v.ownBlock = some g) : base ≤ g ∧ g < w.heap.size := World.ownsRow.lt h g hg
end
/-- append of bytes onto a row of the call's own. -/
theorem appB (w : World) {ops : Array Oper} {rest : List Oper} {o : Oper} {a : Act} {Q : Exit → Act → World → Prop} (hgd : o.guard = none) (s x : Operand)
    (ho : o.op = .call { callee := .builtin .append, args := #[s, x], argTypes := #[22, 22] })
    (base : Nat) (v : Value) (l : List UInt8) (hs : a.eval s = v) (hown : OwnB w base v l)
    (A : Option Addr) (m c : Nat) (news : List UInt8) (hx : a.eval x = .slice A m c) (hm : m = news.length) (hr : Rb w A c news)
    (hb : l.length + news.length ≤ 1000000) (hbase : base ≤ w.heap.size)
    (h : ∀ v' w', OwnB w' base v' (l ++ news) → Below base w w' → wpList Try.prog ops Q rest (a.put o.dst v') w') :
    wpList Try.prog ops Q (o :: rest) a w := by
  obtain ⟨i0, hi, hz0, hz1, hz2⟩ := info_parts infoB
  refine wpList_app w hgd s x 22 ho base 5 i0 _ 1 Try.underlying22 hi hz0 hz1 hz2 rfl v l.length (bv l) hs hown A m c (bv news) hx (by simpa using hm) hr (bvOne _) (by omega) (by unfold maxLen; omega) hbase fun v' w' h1 h2 h3 _ => h v' w' ?_ ?_
  · unfold OwnB bv
    rw [List.length_append, List.map_append, ← hm]
    exact h1
  · exact (Below.refl base w).grown h3 hbase fun k hk => (World.ownsRow.lt hown k hk).1

theorem OwnB.rb {w : World} {base : Nat} {l : List UInt8} {A : Option Addr} {q c : Nat} (h : OwnB w base (.slice A q c) l) : Rb w A c l ∧ l.length = q ∧ ∀ ad, A = some ad → base ≤ ad.block := by
  obtain ⟨A', c', hv, hr, hb⟩ := h.rd
  injection hv with e1 e2 e3
  subst e1 e3
  exact ⟨hr, e2.symm, hb⟩
/-- The call returns a row of its own that holds l; nothing that was in memory has changed. -/
def GivesO (l : List UInt8) (w : World) (e : Ending) (w' : World) : Prop := ∃ A q c, e = .returned (.slice A q c) ∧ Hid (l.length = q) ∧ OwnB w' w.heap.size (.slice A q c) l ∧ Below w.heap.size w w'
theorem GivesO.of {l : List UInt8} {w w' : World} {v : Value} (h : OwnB w' w.heap.size v l) (hb : Below w.heap.size w w') : GivesO l w (.returned v) w' := by
  obtain ⟨A, c, rfl, _, _⟩ := h.rd
  exact ⟨A, _, c, rfl, Lib.hid rfl, h, hb⟩
/-- The call returns a number, a row of its own and an error. -/
def GivesT (x : Value) (l : List UInt8) (err : Nat) (w : World) (e : Ending) (w' : World) : Prop := ∃ A q c, e = .returned (.tuple #[x, .slice A q c, .int .i64 err]) ∧ Hid (l.length = q) ∧ Rb w' A c l ∧ Below w.heap.size w w'
end Go.Proofs.Ytcbipokohjajoaa
