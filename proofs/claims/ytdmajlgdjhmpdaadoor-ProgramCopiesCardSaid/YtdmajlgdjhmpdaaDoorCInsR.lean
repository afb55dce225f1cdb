/-
  The contract of inst.Rename: the renamed instruction or the error.
-/
import Derived.Test.YtdmajlgdjhmpdaaDoorCInsD
namespace Go.Proofs.YtdmajlgdjhmpdaaDoor
open Go Go.RowKit

/-- The error of Rename, and its instruction. -/
def I8.renE (i : I8) (l : List Int) : Int := if i.chk ≠ 0 then i.chk else if l.length ≠ 8 then 1 else if l.all rgOk = false then 10 else 0
def I8.renI (i : I8) (l : List Int) : I8 := if i.renE l = 0 then i.ren (mpL l) else I8.zero
theorem renBad {i : I8} {l : List Int} (h : i.chk ≠ 0) : i.renE l = i.chk ∧ i.renI l = I8.zero := by
  have e : i.renE l = i.chk := by unfold I8.renE; rw [if_pos h]
  exact ⟨e, by unfold I8.renI; rw [e, if_neg h]⟩
theorem renLen {i : I8} {l : List Int} (h : i.chk = 0) (hl : l.length ≠ 8) : i.renE l = 1 ∧ i.renI l = I8.zero := by
  have e : i.renE l = 1 := by unfold I8.renE; rw [if_neg (by simp [h]), if_pos hl]
  exact ⟨e, by unfold I8.renI; rw [e]; rfl⟩
theorem renReg {i : I8} {l : List Int} (h : i.chk = 0) (hl : l.length = 8) {k : Nat} (hk : k < l.length) (hb : rgOk l[k] = false) : i.renE l = 10 ∧ i.renI l = I8.zero := by
  have hf : l.all rgOk = false := by
    rw [List.all_eq_false]
    exact ⟨_, List.getElem_mem hk, by simp [hb]⟩
  have e : i.renE l = 10 := by unfold I8.renE; rw [if_neg (by simp [h]), if_neg (by simp [hl]), if_pos hf]
  exact ⟨e, by unfold I8.renI; rw [e]; rfl⟩
theorem renOk {i : I8} {l : List Int} (h : i.chk = 0) (hl : l.length = 8) (hb : ∀ x ∈ l, rgOk x = true) : i.renE l = 0 ∧ i.renI l = i.ren (mpL l) := by
  have hf : l.all rgOk = true := by rw [List.all_eq_true]; exact hb
  have e : i.renE l = 0 := by unfold I8.renE; rw [if_neg (by simp [h]), if_neg (by simp [hl]), if_neg (by simp [hf])]
  exact ⟨e, by unfold I8.renI; rw [e]; rfl⟩
theorem othN {W : World} {g i : Nat} {T : TypeId} {cs : Array Value} {v : Value} (h : Blk W (g + 1) T cs) : Blk (W.setCell ⟨g, i, none⟩ v) (g + 1) T cs := h.other (by omega) i v
theorem rdFlat {w : World} {A : Option Addr} {c : Nat} {l : List Int} (h : Rd w A c l) (hl : 0 < l.length) : ∃ b off, A = some ⟨b, off, none⟩ ∧ b < w.heap.size ∧ ∀ j (hj : j < l.length), w.cell? ⟨b, off + j, none⟩ = some (.int .i64 l[j]) := by
  obtain ⟨b, off, e, hb, hc⟩ := h.plain hl
  refine ⟨b, off, e, hb, fun j hj => ?_⟩
  rw [hc j hj]
  simp [List.getD, hj]
theorem mpAt {l : List Int} (j : Nat) (h : j < l.length) : l[j] = mpL l j := by
  unfold mpL
  rw [Int.toNat_natCast, List.getD_eq_getElem?_getD, List.getElem?_eq_getElem h]
  rfl
theorem infoInst : (Tryd.prog.info? 40).map (·.size) = some 8 := by kernel_rfl
abbrev zeros8 : Array Value := #[.int .i64 0, .int .i64 0, .int .i64 0, .int .i64 0, .int .i64 0, .int .i64 0, .int .i64 0, .int .i64 0]

theorem stored8 {W : World} {b : Nat} {T : TypeId} {x0 x1 x2 x3 x4 x5 x6 x7 v0 v1 v2 v3 v4 v5 v6 v7 : Value} (h : Blk W b T #[x0, x1, x2, x3, x4, x5, x6, x7]) : Blk ((((((((W.setCell ⟨b, 0, none⟩ v0).setCell ⟨b, 1, none⟩ v1).setCell ⟨b, 2, none⟩ v2).setCell ⟨b, 3, none⟩ v3).setCell ⟨b, 4, none⟩ v4).setCell ⟨b, 5, none⟩ v5).setCell ⟨b, 6, none⟩ v6).setCell ⟨b, 7, none⟩ v7) b T #[v0, v1, v2, v3, v4, v5, v6, v7] :=
  by simpa using (((((((h.set 0 v0).set 1 v1).set 2 v2).set 3 v3).set 4 v4).set 5 v5).set 6 v6).set 7 v7
theorem belowSt {B : Nat} {a b : World} (h : Below B a b) (g i : Nat) (v : Value) (hp : B ≤ g) : Below B a (b.setCell ⟨g, i, none⟩ v) :=
  ⟨h.os, h.tape, h.output, by simpa using h.size, fun k hk => (heap_setCell_other b ⟨g, i, none⟩ k v (by show k ≠ g; omega)).trans (h.block k hk)⟩
theorem below8 {W a : World} {B b : Nat} {v0 v1 v2 v3 v4 v5 v6 v7 : Value} (h : Below B a W) (hb : B ≤ b) : Below B a ((((((((W.setCell ⟨b, 0, none⟩ v0).setCell ⟨b, 1, none⟩ v1).setCell ⟨b, 2, none⟩ v2).setCell ⟨b, 3, none⟩ v3).setCell ⟨b, 4, none⟩ v4).setCell ⟨b, 5, none⟩ v5).setCell ⟨b, 6, none⟩ v6).setCell ⟨b, 7, none⟩ v7) :=
  belowSt (belowSt (belowSt (belowSt (belowSt (belowSt (belowSt (belowSt h b 0 _ hb) b 1 _ hb) b 2 _ hb) b 3 _ hb) b 4 _ hb) b 5 _ hb) b 6 _ hb) b 7 _ hb
theorem blkFacts {W : World} {b : Nat} {T : TypeId} {x0 x1 x2 x3 x4 x5 x6 x7 : Value} (h : Blk W b T #[x0, x1, x2, x3, x4, x5, x6, x7]) : (W.cell? ⟨b, 0, none⟩ = some x0 ∧ W.cell? ⟨b, 1, none⟩ = some x1 ∧ W.cell? ⟨b, 2, none⟩ = some x2 ∧ W.cell? ⟨b, 3, none⟩ = some x3 ∧ W.cell? ⟨b, 4, none⟩ = some x4 ∧ W.cell? ⟨b, 5, none⟩ = some x5 ∧ W.cell? ⟨b, 6, none⟩ = some x6 ∧ W.cell? ⟨b, 7, none⟩ = some x7) ∧ (W.frozen? ⟨b, 0, none⟩ = false ∧ W.frozen? ⟨b, 1, none⟩ = false ∧ W.frozen? ⟨b, 2, none⟩ = false ∧ W.frozen? ⟨b, 3, none⟩ = false ∧ W.frozen? ⟨b, 4, none⟩ = false ∧ W.frozen? ⟨b, 5, none⟩ = false ∧ W.frozen? ⟨b, 6, none⟩ = false ∧ W.frozen? ⟨b, 7, none⟩ = false) :=
  ⟨⟨h.cell 0, h.cell 1, h.cell 2, h.cell 3, h.cell 4, h.cell 5, h.cell 6, h.cell 7⟩, h.frozen 0, h.frozen 1, h.frozen 2, h.frozen 3, h.frozen 4, h.frozen 5, h.frozen 6, h.frozen 7⟩

end Go.Proofs.YtdmajlgdjhmpdaaDoor
