/-
  The law ProgramCopies returns true for every two programs, where the tables are laid.
-/
import Derived.Test.YtdmajlgdjhmpdaaDoorCPgCa
import Derived.Test.YtdmajlgdjhmpdaaDoorCPgCr
import Derived.Test.YtdmajlgdjhmpdaaDoorCPgX8
import Derived.BigQuiet
namespace Go.Proofs.YtdmajlgdjhmpdaaDoor
open Go Go.RowKit

/-- From Z to Y only blocks from lo to hi have changed, in their cells alone; the codes of the functions in block b4 lie where they lay. -/
structure Md (lo hi b4 o4 : Nat) (Z Y : World) : Prop where
  os : Y.os = Z.os
  tape : Y.tape = Z.tape
  output : Y.output = Z.output
  size : Y.heap.size = Z.heap.size
  out : ∀ b : Nat, b < lo ∨ hi ≤ b → Y.heap[b]? = Z.heap[b]?
  noObj : ∀ {b : Nat} {o : Obj} {cur : Array Value} {e : TypeId}, Z.heap[b]? = some o → Y.heap[b]? = some (.cells cur e (0, 0)) → ¬ (∃ c e' z, o = .cells c e' z) → False
  shape : ∀ (b : Nat) (cur : Array Value) (e : TypeId) (z : Nat × Nat), Z.heap[b]? = some (.cells cur e z) → ∃ cur', Y.heap[b]? = some (.cells cur' e z) ∧ cur'.size = cur.size
  code : ∀ j, Y.cell? ⟨b4, o4 + j * 2 + 1, none⟩ = Z.cell? ⟨b4, o4 + j * 2 + 1, none⟩
theorem Md.refl (lo hi b4 o4 : Nat) (Z : World) : Md lo hi b4 o4 Z Z := ⟨rfl, rfl, rfl, rfl, fun _ _ => rfl, fun h1 h2 h3 => h3 ⟨_, _, _, Option.some.inj (h1.symm.trans h2)⟩, fun _ cur _ _ h => ⟨cur, h, rfl⟩, fun _ => rfl⟩
theorem Md.set {lo hi b4 o4 : Nat} {Z Y : World} (h : Md lo hi b4 o4 Z Y) {t i : Nat} {v : Value} {cur : Array Value} {e : TypeId} (ht : Y.heap[t]? = some (.cells cur e (0, 0))) (h1 : lo ≤ t) (h2 : t < hi) (h3 : t = b4 → ∀ j, i ≠ o4 + j * 2 + 1) : Md lo hi b4 o4 Z (Y.setCell ⟨t, i, none⟩ v) := by
  have hB : Blk Y t e cur := ht
  have hB2 := hB.set i v
  have hoth : ∀ b, b ≠ t → (Y.setCell ⟨t, i, none⟩ v).heap[b]? = Y.heap[b]? := fun b hb => heap_setCell_other Y ⟨t, i, none⟩ b v hb
  refine ⟨h.os, h.tape, h.output, by rw [World.size_setCell]; exact h.size, fun b hb => ?_, fun {b o c e'} g1 g2 g3 => ?_, fun b c e' z hz => ?_, fun j => ?_⟩
  · rw [hoth b (by omega)]
    exact h.out b hb
  · by_cases hbt : b = t
    · subst hbt
      exact h.noObj g1 ht g3
    · rw [hoth b hbt] at g2
      exact h.noObj g1 g2 g3
  · obtain ⟨c', hc1, hc2⟩ := h.shape b c e' z hz
    by_cases hbt : b = t
    · subst hbt
      rw [ht] at hc1
      cases hc1
      exact ⟨_, hB2, by rw [Array.size_setIfInBounds]; exact hc2⟩
    · exact ⟨c', (hoth b hbt).trans hc1, hc2⟩
  · rw [← h.code j]
    by_cases hbt : b4 = t
    · subst hbt
      rw [hB2.cell, hB.cell]
      exact Array.getElem?_setIfInBounds_ne (h3 rfl j)
    · exact World.cell?_of_block (hoth b4 hbt)
theorem Md.drewN {lo hi b4 o4 : Nat} {Z Y : World} (h : Md lo hi b4 o4 Z Y) (n : Nat) : Md lo hi b4 o4 Z (Y.drewN n) := ⟨h.os, h.tape, h.output, h.size, h.out, h.noObj, h.shape, h.code⟩
theorem Md.below {lo hi b4 o4 base : Nat} {w Z Y : World} (h : Md lo hi b4 o4 Z Y) (hb : Below base w Z) (hl : base ≤ lo) : Below base w Y := ⟨h.os.trans hb.os, h.tape.trans hb.tape, h.output.trans hb.output, by rw [h.size]; exact hb.size, fun k hk => (h.out k (by omega)).trans (hb.block k hk)⟩
/-- A new row is a row whose cells may be written. -/
theorem Md.row {lo b4 o4 : Nat} {w3 Z Y : World} (h : Md lo w3.heap.size b4 o4 Z Y) (hb : Below w3.heap.size w3 Z) {A : Option Addr} {m : Nat} {e : TypeId} (hf : FreshRow w3 lo A m e) (hm : 0 < m) : ∃ g o cur, o = 0 ∧ A = some ⟨g, o, none⟩ ∧ lo ≤ g ∧ g < w3.heap.size ∧ Blk Y g e cur ∧ m ≤ cur.size := by
  obtain ⟨g, cur, e1, e2, e3, e4⟩ := hf hm
  have hlt := (Array.getElem?_eq_some_iff.1 e3).1
  obtain ⟨c', h1, h2⟩ := h.shape g cur e _ ((hb.block g hlt).trans e3)
  exact ⟨g, 0, c', rfl, e1, e2, hlt, h1, by rw [h2]; exact e4⟩
/-- Where the functions lie, if there are any; else nowhere below hi. -/
structure At4 (lo b4 o4 : Nat) (w3 : World) (a : PgA) (p : Prg) : Prop where
  fn : 0 < a.n4 → FnRow lo w3 a p a.n4 b4 o4
  ne : ∀ t cur e z, w3.heap[t]? = some (.cells cur e z) → e ≠ 35 → t ≠ b4
theorem at4Ex {lo : Nat} {w3 : World} {a : PgA} {p : Prg} (h : Cl8 lo w3 p a) : ∃ b4 o4, At4 lo b4 o4 w3 a p := by
  rcases Nat.eq_zero_or_pos a.n4 with h0 | h0
  · exact ⟨w3.heap.size, 0, fun h1 => by omega, fun t cur e z ht _ => Nat.ne_of_lt (Array.getElem?_eq_some_iff.1 ht).1⟩
  · obtain ⟨b, off, hf⟩ := h.fn h0
    obtain ⟨cur, hcur⟩ := hf.blk
    exact ⟨b, off, fun _ => hf, fun t c e z ht he hh => by
      subst hh
      rw [hcur] at ht
      injection ht with ht
      injection ht with _ ht
      exact he ht.symm⟩
/-- A cell of a new row that holds no function may be written. -/
theorem Md.put {lo b4 o4 : Nat} {w3 Z Y : World} {a : PgA} {p : Prg} (h : Md lo w3.heap.size b4 o4 Z Y) (hb : Below w3.heap.size w3 Z) (h4 : At4 lo b4 o4 w3 a p) {t : Nat} {cur : Array Value} {e : TypeId} (ht : Blk Y t e cur) (h1 : lo ≤ t) (h2 : t < w3.heap.size) (he : e ≠ 35) (i : Nat) (v : Value) : Md lo w3.heap.size b4 o4 Z (Y.setCell ⟨t, i, none⟩ v) :=
  h.set ht h1 h2 fun hh => absurd hh (by
    obtain ⟨o, ho⟩ : ∃ o, w3.heap[t]? = some o := ⟨w3.heap[t], Array.getElem?_eq_getElem h2⟩
    have hz : Z.heap[t]? = some o := (hb.block t h2).trans ho
    have hY : Y.heap[t]? = some (.cells cur e (0, 0)) := ht
    by_cases hc : ∃ c e' z, o = .cells c e' z
    · obtain ⟨c, e', z, rfl⟩ := hc
      obtain ⟨c', q1, _⟩ := h.shape t c e' z hz
      rw [hY] at q1
      cases q1
      exact h4.ne t c e (0, 0) ho he
    · intro hh
      subst hh
      rcases Nat.eq_zero_or_pos a.n4 with h0 | h0
      · exact h.noObj hz hY hc
      · obtain ⟨c, hcur⟩ := (h4.fn h0).blk
        rw [ho] at hcur
        cases hcur
        exact hc ⟨_, _, _, rfl⟩)
/-- The functions' block, when something has been written. -/
theorem Md.fnAt {lo b4 o4 : Nat} {w3 Z Y : World} {a : PgA} {p : Prg} (h : Md lo w3.heap.size b4 o4 Z Y) (hb : Below w3.heap.size w3 Z) (hf : FnRow lo w3 a p a.n4 b4 o4) {k : Nat} (hk : k < p.funcs.length) (hl : p.funcs.length = a.n4) : ∃ cur v B m d, Blk Y b4 35 cur ∧ b4 < w3.heap.size ∧ Y.cell? ⟨b4, o4 + k * 2, none⟩ = some v ∧ Y.cell? ⟨b4, o4 + k * 2 + 1, none⟩ = some (.slice B m d) ∧ m ≤ d ∧ d ≤ maxLen ∧ FreshRow w3 lo B (m * 8) 40 := by
  obtain ⟨cur, hcur⟩ := hf.blk
  have hlt := (Array.getElem?_eq_some_iff.1 hcur).1
  obtain ⟨c', h1, h2⟩ := h.shape b4 cur _ _ ((hb.block b4 hlt).trans hcur)
  obtain ⟨q1, B, m, d, q2, q3, q4, q5, _⟩ := hf.at_ k hk
  have hi : o4 + k * 2 < cur.size := by
    rw [(show w3.cell? ⟨b4, o4 + k * 2, none⟩ = cur[o4 + k * 2]? from Blk.cell (show Blk w3 b4 35 cur from hcur) _)] at q1
    exact (Array.getElem?_eq_some_iff.1 q1).1
  refine ⟨c', c'[o4 + k * 2]'(by rw [h2]; exact hi), B, m, d, h1, hlt, ?_, ?_, by have := q4.le; omega, q4.max, q5 (by omega)⟩
  · rw [Blk.cell (show Blk Y b4 35 c' from h1)]
    exact Array.getElem?_eq_getElem _
  · rw [h.code k, hb.cell hlt]
    exact q2
theorem blkSome {Y : World} {g i : Nat} {e : TypeId} {cur : Array Value} (h : Blk Y g e cur) (hi : i < cur.size) : ∃ v, Y.cell? ⟨g, i, none⟩ = some v := ⟨cur[i], by rw [h.cell]; exact Array.getElem?_eq_getElem hi⟩
theorem sumLe (l : List Nat) (h : ∀ x ∈ l, x ≤ 100) : l.sum ≤ 100 * l.length := by
  induction l with
  | nil => exact Nat.le_refl _
  | cons x l ih =>
    have h1 := h x (by simp)
    have h2 := ih fun y hy => h y (by simp [hy])
    rw [List.sum_cons, List.length_cons]
    omega
theorem shortOf {p : Prg} (h : p.small = true) : ∀ f ∈ p.funcs, f.2.length ≤ 100 := by
  unfold Prg.small Prg.short at h
  rw [Bool.and_eq_true] at h
  intro f hf
  have := List.all_eq_true.1 h.2 f hf
  simpa using this
theorem sizeOf8 {p : Prg} (h : p.small = true) : p.size ≤ 1000000 := by
  have h1 := fewOf h
  unfold Prg.size
  have := sumLe (p.funcs.map fun f => f.2.length) (fun x hx => by
    obtain ⟨f, hf, rfl⟩ := List.mem_map.1 hx
    exact shortOf h f hf)
  rw [List.length_map] at this
  omega
end Go.Proofs.YtdmajlgdjhmpdaaDoor
