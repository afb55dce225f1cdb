/-
  The contracts of inst.Uses and inst.Defines: the registers that an instruction reads and writes.
-/
import Derived.Test.YtpkagpobobmnfaaGreatDoorCInT
import Derived.Test.YtpkagpobobmnfaaGreatDoorCMk
import Derived.Test.YtpkagpobobmnfaaGreatDoorCPure
import Derived.ProofKit
import Derived.OpenShut
import Derived.ChangeMaps5
import Derived.Deep.SlicePairs
import Derived.Lib.SmallJoins
namespace Go.Proofs.YtpkagpobobmnfaaGreatDoor
open Go Go.RowKit Go.Sort

theorem iCheckA (op a b c obj n fn ord r : Int) (hr : (I8.mk8 op a b c obj n fn ord).chk = r) (hi : (I8.mk8 op a b c obj n fn ord).Wf) (w : World) (hT : InsT w) (hN : Nm w) :
    Calls Tryz.prog 59 #[.agg #[.int .i64 op, .int .i64 a, .int .i64 b, .int .i64 c, .int .i64 obj, .int .i64 n, .int .i64 fn, .int .i64 ord]] w fun e w' => e = .returned (.int .i64 r) ∧ Below w.heap.size w w' := iCheck _ r hr hi w hT hN
theorem InsT.below {W X : World} {B : Nat} (h : InsT W) (hb : Below B W X) (hB : W.heap.size ≤ B := by exact Nat.le_refl _) : InsT X :=
  ⟨fun k hk => (hb.cell (Nat.lt_of_lt_of_le (World.block_lt_of_cell? _ _ (h.nm k hk)) hB)).trans (h.nm k hk), fun k f hk hf => (hb.cell (Nat.lt_of_lt_of_le (World.block_lt_of_cell? _ _ (h.us k f hk hf)) hB)).trans (h.us k f hk hf)⟩
theorem boxFactsW {W : World} {n0 : Nat} {k a b c obj n fn ord : Int} (h : Blk W n0 55 #[.int .i64 k, .int .i64 a, .int .i64 b, .int .i64 c, .int .i64 obj, .int .i64 n, .int .i64 fn, .int .i64 ord]) :
    W.cell? ⟨n0, 0, none⟩ = some (.int .i64 k) ∧ W.cell? ⟨n0, 1, none⟩ = some (.int .i64 a) ∧ W.cell? ⟨n0, 2, none⟩ = some (.int .i64 b) ∧ W.cell? ⟨n0, 3, none⟩ = some (.int .i64 c) ∧ W.cell? ⟨n0, 4, none⟩ = some (.int .i64 obj) ∧ W.cell? ⟨n0, 5, none⟩ = some (.int .i64 n) ∧ W.cell? ⟨n0, 6, none⟩ = some (.int .i64 fn) ∧ W.cell? ⟨n0, 7, none⟩ = some (.int .i64 ord) :=
  ⟨h.cell 0, h.cell 1, h.cell 2, h.cell 3, h.cell 4, h.cell 5, h.cell 6, h.cell 7⟩
end Go.Proofs.YtpkagpobobmnfaaGreatDoor

namespace Go.Proofs.YtpkagpobobmnfaaGreatDoor
open Go Go.RowKit

/-- In w the slice with address A, capacity c and as many elements as l, each of k cells, reads as l; E says how an element lies at a place. -/
structure RdE {α : Type} (k : Nat) (E : World → Nat → Nat → α → Prop) (w : World) (A : Option Addr) (c : Nat) (l : List α) : Prop where
  le : l.length ≤ c
  max : c ≤ maxLen
  at_ : 0 < l.length → ∃ b off, A = some ⟨b, off, none⟩ ∧ b < w.heap.size ∧ ∀ j (h : j < l.length), E w b (off + j * k) l[j]
/-- What lies at a place stays there as long as what is old is unchanged. -/
def StabE {α : Type} (E : World → Nat → Nat → α → Prop) : Prop := ∀ (w w' : World) (b o : Nat) (x : α), b < w.heap.size → Below w.heap.size w w' → E w b o x → E w' b o x
section
variable {α : Type} {k : Nat} {E : World → Nat → Nat → α → Prop} {w w' : World} {A : Option Addr} {c : Nat} {l : List α}
theorem RdE.nil : RdE k E w none 0 ([] : List α) := ⟨Nat.zero_le _, Nat.zero_le _, fun h => absurd h (by simp)⟩
theorem RdE.one (h : RdE k E w A c l) {j : Nat} (hj : j < l.length) : ∃ b off, A = some ⟨b, off, none⟩ ∧ b < w.heap.size ∧ E w b (off + j * k) l[j] := by
  obtain ⟨b, off, e, hb, hc⟩ := h.at_ (by omega)
  exact ⟨b, off, e, hb, hc j hj⟩
theorem RdE.below (h : RdE k E w A c l) (hE : StabE E) (hb : Below w.heap.size w w') : RdE k E w' A c l :=
  ⟨h.le, h.max, fun hn => by
    obtain ⟨b, off, e, hl, hc⟩ := h.at_ hn
    exact ⟨b, off, e, Nat.lt_of_lt_of_le hl hb.size, fun j hj => hE _ _ _ _ _ hl hb (hc j hj)⟩⟩
end
/-- The eight cells of an instruction. -/
structure EI (w : World) (b o : Nat) (i : I8) : Prop where
  c0 : w.cell? ⟨b, o, none⟩ = some (.int .i64 i.op)
  c1 : w.cell? ⟨b, o + 1, none⟩ = some (.int .i64 i.a)
  c2 : w.cell? ⟨b, o + 2, none⟩ = some (.int .i64 i.b)
  c3 : w.cell? ⟨b, o + 3, none⟩ = some (.int .i64 i.c)
  c4 : w.cell? ⟨b, o + 4, none⟩ = some (.int .i64 i.obj)
  c5 : w.cell? ⟨b, o + 5, none⟩ = some (.int .i64 i.n)
  c6 : w.cell? ⟨b, o + 6, none⟩ = some (.int .i64 i.fn)
  c7 : w.cell? ⟨b, o + 7, none⟩ = some (.int .i64 i.ord)
theorem stabI : StabE EI := fun _ _ _ _ _ hl hb h => ⟨(hb.cell hl).trans h.c0, (hb.cell hl).trans h.c1, (hb.cell hl).trans h.c2, (hb.cell hl).trans h.c3, (hb.cell hl).trans h.c4, (hb.cell hl).trans h.c5, (hb.cell hl).trans h.c6, (hb.cell hl).trans h.c7⟩
end Go.Proofs.YtpkagpobobmnfaaGreatDoor

namespace Go.Proofs.YtpkagpobobmnfaaGreatDoor
open Go Go.ChangeShapes Go.WideShapes Go.ChangeAt Go.RowKit Go.Deep Go.Joins

theorem listOf {α : Type} {R : Nat → α → Prop} : ∀ (n : Nat), (∀ i, i < n → ∃ x, R i x) → ∃ l : List α, l.length = n ∧ ∀ i (hi : i < l.length), R i l[i]
  | 0, _ => ⟨[], rfl, fun i hi => absurd hi (by simp)⟩
  | n + 1, h => by
    obtain ⟨l, hl, hR⟩ := listOf n fun i hi => h i (by omega)
    obtain ⟨x, hx⟩ := h n (by omega)
    refine ⟨l ++ [x], by simp [hl], fun i hi => ?_⟩
    rw [List.length_append, List.length_singleton] at hi
    by_cases e : i < l.length
    · rw [List.getElem_append_left e]
      exact hR i e
    · have e2 : i = l.length := by omega
      subst e2
      rw [List.getElem_append_right (Nat.le_refl _)]
      simpa [hl] using hx
section
variable {H : Type} {enc : TypeId × Value → H} {W : World} {b0 : Nat}
/-- A slice as an argument, whatever its elements. -/
theorem openE {α : Type} {t e : TypeId} {k fuel : Nat} {v : Value} {y : DataW H × List MemPlace} (E : World → Nat → Nat → α → Prop) (Q : α → Prop) (ht : Tryz.prog.underlying t = some (.slice e)) (hk : Tryz.prog.cellsOf e = k) (hk0 : 0 < k)
    (hel : ∀ (b o : Nat) (cs : List Value) (n : Nat) (x : DataW H × List MemPlace), cs.length = k → (∀ j (h : j < cs.length), W.cell? ⟨b, o + j, none⟩ = some cs[j]) → DataW.trod enc Tryz.prog W b0 (fun _ => true) true n e cs = some x → ∃ z, E W b o z ∧ Q z)
    (h : DataW.trod enc Tryz.prog W b0 (fun _ => true) true fuel t [v] = some y) : ∃ (A : Option Addr) (n c : Nat) (l : List α), v = .slice A n c ∧ l.length = n ∧ RdE k E W A c l ∧ ∀ x ∈ l, Q x := by
  rcases open_slice ht h with ⟨hcs, hx⟩ | ⟨a, len, cap, m, n, D, Pl, hcs, hb, hl, hmx, hmm, hx, hcell⟩
  · injection hcs with hcs
    exact ⟨none, 0, 0, [], hcs, rfl, RdE.nil, fun _ h => by cases h⟩
  · injection hcs with hcs
    simp only [if_true] at hmm
    subst hmm
    rcases Nat.eq_zero_or_pos len with h0 | h0
    · subst h0
      exact ⟨some a, 0, m, [], hcs, rfl, ⟨by simp, hmx, fun h => absurd h (by simp)⟩, fun _ h => by cases h⟩
    obtain ⟨cs0, h1, _⟩ := hcell 0 (by omega)
    rw [hk] at h1
    obtain ⟨_, hlen0, hc0⟩ := World.cells?_some h1
    have e0 := (hc0 0 (by omega)).trans (List.getElem?_eq_getElem (by omega))
    obtain ⟨b, off, spot⟩ := a
    have hspot : spot = none := by simpa [Addr.add] using World.cell?_spot e0
    subst hspot
    have hbl : b < W.heap.size := by
      have := World.block_lt_of_cell? W _ e0
      simpa [Addr.add] using this
    obtain ⟨l, hll, hR⟩ := listOf (R := fun i z => E W b (off + i * k) z ∧ Q z) len fun i hi => by
      obtain ⟨cs', h1, h2⟩ := hcell i (by omega)
      rw [hk] at h1
      obtain ⟨_, hlen, hc⟩ := World.cells?_some h1
      refine hel b (off + i * k) cs' _ _ hlen (fun j hj => ?_) h2
      have := hc j (by omega)
      rw [Addr.add_lit, Addr.add_lit] at this
      exact this.trans (List.getElem?_eq_getElem hj)
    refine ⟨_, len, m, l, hcs, hll, ⟨by omega, hmx, fun _ => ⟨b, off, rfl, hbl, fun j hj => (hR j hj).1⟩⟩, fun x hx => ?_⟩
    obtain ⟨i, hi, rfl⟩ := List.getElem_of_mem hx
    exact (hR i hi).2
/-- The i-th field's part of a struct's cells. -/
theorem fieldAt {fs : Array Field} {cs : List Value} {xs : List (DataW H × List MemPlace)} {n : Nat} (h1 : oneCellFields Tryz.prog fs = true) (hl : cs.length = fs.size) (hxl : xs.length = fs.size)
    (hx : ∀ (i : Nat) (f : Field), fs[i]? = some f → DataW.trod enc Tryz.prog W b0 (fun _ => true) true n f.type ((cs.drop f.offset).take (Tryz.prog.cellsOf f.type)) = xs[i]?) (i : Nat) (hi : i < fs.size) :
    ∃ y, DataW.trod enc Tryz.prog W b0 (fun _ => true) true n fs[i].type [cs[i]] = some y := by
  have hf : fs[i]? = some fs[i] := Array.getElem?_eq_getElem hi
  obtain ⟨o, ce⟩ := hone_of h1 i fs[i] hf
  have h := hx i fs[i] hf
  rw [o, ce, List.getElem?_eq_getElem (by omega)] at h
  have e : List.take 1 (List.drop i cs) = [cs[i]'(by omega)] := by
    rw [List.drop_eq_getElem_cons (by omega)]
    rfl
  rw [e] at h
  exact ⟨_, h⟩
theorem funcFs : ∃ fs, Tryz.prog.underlying 24 = some (.struct fs) ∧ oneCellFields Tryz.prog fs = true ∧ fs.map (·.type) = #[9, 22] ∧ Tryz.prog.cellsOf 24 = 2 := ⟨_, Tryz.underlying24, by kernel_rfl, by kernel_rfl, by kernel_rfl⟩
theorem instFs2 : ∃ fs, Tryz.prog.underlying 55 = some (.struct fs) ∧ oneCellFields Tryz.prog fs = true ∧ fs.map (·.type) = #[51, 3, 3, 3, 3, 3, 52, 53] ∧ Tryz.prog.cellsOf 55 = 8 := ⟨_, Tryz.underlying55, by kernel_rfl, by kernel_rfl, by kernel_rfl⟩
theorem typeAt {fs : Array Field} {ts : Array TypeId} (h : fs.map (·.type) = ts) (i : Nat) (hi : i < fs.size) {t : TypeId} (ht : ts[i]? = some t) : fs[i].type = t := by
  rw [← h, Array.getElem?_map, Array.getElem?_eq_getElem hi] at ht
  exact Option.some.inj ht
/-- A struct's cells, field by field. -/
theorem fieldsOf {t : TypeId} {fs : Array Field} {ts : Array TypeId} {k n : Nat} {cs : List Value} {x : DataW H × List MemPlace} (hu : Tryz.prog.underlying t = some (.struct fs)) (h1 : oneCellFields Tryz.prog fs = true) (h2 : fs.map (·.type) = ts) (hk : ts.size = k) (hl : cs.length = k)
    (h : DataW.trod enc Tryz.prog W b0 (fun _ => true) true n t cs = some x) : ∃ m, ∀ (i : Nat) (hi : i < cs.length) (u : TypeId), ts[i]? = some u → ∃ y, DataW.trod enc Tryz.prog W b0 (fun _ => true) true m u [cs[i]] = some y := by
  obtain ⟨xs, m, _, _, _, hxl, hx⟩ := DataW.trod_struct hu h
  have hsz : fs.size = k := by rw [← hk, ← h2, Array.size_map]
  refine ⟨m, fun i hi u hu' => ?_⟩
  have := fieldAt h1 (by omega) hxl hx i (by omega)
  rwa [typeAt h2 i (by omega) hu'] at this
theorem elI {b o n : Nat} {cs : List Value} {x : DataW H × List MemPlace} (hl : cs.length = 8) (hc : ∀ j (h : j < cs.length), W.cell? ⟨b, o + j, none⟩ = some cs[j]) (h : DataW.trod enc Tryz.prog W b0 (fun _ => true) true n 55 cs = some x) : ∃ z, EI W b o z ∧ z.Wf := by
  obtain ⟨fs, g1, g2, g3, g4⟩ := instFs2
  obtain ⟨m, hf⟩ := fieldsOf g1 g2 g3 rfl hl h
  have key : ∀ (i : Nat) (hi : i < cs.length) (u : TypeId), Tryz.prog.underlying u = some (.int .i64) → (#[51, 3, 3, 3, 3, 3, 52, 53] : Array TypeId)[i]? = some u → ∃ z, W.cell? ⟨b, o + i, none⟩ = some (.int .i64 z) ∧ In64 z := fun i hi u hu ht => by
    obtain ⟨_, f0⟩ := hf i hi u ht
    obtain ⟨z, e, hz⟩ := intOfTrod hu f0
    exact ⟨z, (hc i hi).trans (by rw [e]), hz⟩
  obtain ⟨z0, k0, w0⟩ := key 0 (by omega) _ Tryz.underlying51 rfl
  obtain ⟨z1, k1, w1⟩ := key 1 (by omega) _ Tryz.underlying3 rfl
  obtain ⟨z2, k2, w2⟩ := key 2 (by omega) _ Tryz.underlying3 rfl
  obtain ⟨z3, k3, w3⟩ := key 3 (by omega) _ Tryz.underlying3 rfl
  obtain ⟨z4, k4, w4⟩ := key 4 (by omega) _ Tryz.underlying3 rfl
  obtain ⟨z5, k5, w5⟩ := key 5 (by omega) _ Tryz.underlying3 rfl
  obtain ⟨z6, k6, w6⟩ := key 6 (by omega) _ Tryz.underlying52 rfl
  obtain ⟨z7, k7, w7⟩ := key 7 (by omega) _ Tryz.underlying53 rfl
  exact ⟨⟨z0, z1, z2, z3, z4, z5, z6, z7⟩, ⟨k0, k1, k2, k3, k4, k5, k6, k7⟩, ⟨w0, w1, w2, w3, w4, w5, w6, w7⟩⟩
end
end Go.Proofs.YtpkagpobobmnfaaGreatDoor
