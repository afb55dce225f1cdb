/-
  Rows of masks of the call's own: what they hold, cell by cell; the slice of what stands before each number.
-/
import Derived.Test.YtjioiaeiggjneaaDoorKRowI
import Derived.Test.YtjioiaeiggjneaaDoorKLinB
namespace Go.Proofs.YtjioiaeiggjneaaDoor
open Go.RowKit

theorem infoSet : (Tryd.prog.info? 51).map (fun i => (i.zero, i.size, i.bytes)) = some (some (.int .u64 0), 1, 8) := by kernel_rfl
/-- Block g is a row of n numbers: those of S, as masks. -/
def RowU (w : World) (g n : Nat) (S : Nat → Nat) : Prop := w.ownsRow 0 51 1 (.slice (some ⟨g, 0, none⟩) n n) n ((List.range n).map fun x => .int .u64 (S x))
section
variable {w w' : World} {g n : Nat} {S : Nat → Nat}
theorem RowU.lt (h : RowU w g n S) : g < w.heap.size := (World.ownsRow.lt h g rfl).2
theorem RowU.chg {F : Nat → Prop} (h : RowU w g n S) (hc : Chg w w' F) (hF : F g) : RowU w' g n S := ownChg h hc fun k hk => by
  have : g = k := by simpa [Value.ownBlock] using hk
  exact this ▸ hF
theorem RowU.cell (h : RowU w g n S) {i : Nat} (hi : i < n) : w.cell? ⟨g, i, none⟩ = some (.int .u64 (S i)) := by
  unfold RowU at h
  rw [World.ownsRow.cellAt h i (by omega), List.getElem?_map, List.getElem?_range hi]; rfl
theorem RowU.frozen (h : RowU w g n S) (i : Nat) : w.frozen? ⟨g, i, none⟩ = false := World.ownsRow.frozenAt h i
theorem RowU.set (h : RowU w g n S) (i d : Nat) : RowU (w.setCell ⟨g, i, none⟩ (.int .u64 d)) g n (setN S i d) := by
  have h2 := (World.ownsRow.stored h i (.int .u64 d)).1
  have e : ((List.range n).map fun x => Value.int .u64 (S x : Int)).set i (.int .u64 d) = (List.range n).map fun x => Value.int .u64 (setN S i d x : Int) := by
    refine List.ext_getElem? fun k => ?_
    rw [List.getElem?_set]
    by_cases hk : k < n
    · rw [List.getElem?_map, List.getElem?_range hk, List.getElem?_map, List.getElem?_range hk, List.length_map, List.length_range]
      by_cases e : i = k
      · subst e
        rw [if_pos rfl, if_pos hk]
        simp [setN]
      · rw [if_neg e]
        simp [setN, Ne.symm e]
    · rw [List.getElem?_eq_none (by simp; omega), List.getElem?_eq_none (by simp; omega)]
      split
      · rw [if_neg (by simp; omega)]
      · rfl
  unfold RowU
  rw [← e]
  exact h2
theorem RowU.congr {T : Nat → Nat} (h : RowU w g n S) (e : ∀ x, x < n → S x = T x) : RowU w g n T := by
  have e2 : (List.range n).map (fun x => Value.int .u64 (S x : Int)) = (List.range n).map fun x => Value.int .u64 (T x : Int) := List.map_congr_left fun x hx => by rw [e x (List.mem_range.1 hx)]
  unfold RowU
  rw [← e2]
  exact h
theorem rowUNew {w : World} {g N : Nat} (h : w.heap[g]? = some (.cells (madeCells #[.int .u64 0] N) 51 (0, 0))) (hN : N ≤ maxLen) : RowU w g N (fun _ => 0) := by
  have e : (madeCells #[Value.int .u64 0] N).toList = (List.range N).map fun _ => Value.int .u64 0 := by rw [List.map_const', List.length_range]; exact toList_madeCells_one _ _
  have hs : (madeCells #[Value.int .u64 0] N).size = N := by rw [← Array.length_toList, e]; simp
  refine ⟨by simp, .inr ⟨g, N, _, rfl, Nat.zero_le _, h, Nat.le_refl _, hN, by omega, ?_⟩⟩
  rw [List.take_of_length_le (by rw [Array.length_toList]; omega), e]
  rfl
end
/-- The slice reads as the sets of what stands before each number. -/
def Bef (w : World) (A : Option Addr) (c N : Nat) (f : Nat → Nat → Bool) : Prop := Rds w A c ((List.range N).map fun b => .int .u64 (prdS N f b))
theorem RowU.bef {w : World} {g N : Nat} {f : Nat → Nat → Bool} (h : RowU w g N (prdS N f)) (hN : N ≤ 64) : Bef w (some ⟨g, 0, none⟩) N N f :=
  ⟨by simp, by unfold maxLen; omega, fun _ => ⟨_, rfl, h.lt, fun j u hu => World.ownsRow.cells h (g := g) rfl j u hu⟩⟩
/-- What stands before each number by the first k pairs. -/
structure PrdTo (N : Nat) (l : Prs) (k : Nat) (B : Nat → Nat) : Prop where
  lt : ∀ b, b < N → B b < B64
  bit : ∀ b, b < N → ∀ p, (B b).testBit p = decide (p < N ∧ ((p : Int), (b : Int)) ∈ l.take k)
theorem prdStart {N : Nat} {l : Prs} : PrdTo N l 0 (fun _ => 0) := ⟨fun _ _ => by decide, fun _ _ p => by simp⟩
theorem prdNext {N : Nat} (hN : N ≤ 64) {l : Prs} {k : Nat} {B : Nat → Nat} (h : PrdTo N l k B) (hk : k < l.length) {a b : Nat} (e1 : l[k].1 = (a : Int)) (e2 : l[k].2 = (b : Int)) (ha : a < N) : PrdTo N l (k + 1) (setN B b (addS (B b) a)) := by
  refine ⟨fun x hx => ?_, fun x hx p => ?_⟩
  · unfold setN
    split
    · rename_i e; subst e; exact addLt (h.lt x hx) (by omega)
    · exact h.lt x hx
  · have key : ((p : Int), (x : Int)) ∈ l.take (k + 1) ↔ ((p : Int), (x : Int)) ∈ l.take k ∨ (p = a ∧ x = b) := by
      rw [List.take_succ_eq_append_getElem hk, List.mem_append, List.mem_singleton]
      have : ((p : Int), (x : Int)) = l[k] ↔ (p = a ∧ x = b) := by
        constructor
        · intro h1
          rw [← h1] at e1 e2
          simp only at e1 e2
          omega
        · rintro ⟨rfl, rfl⟩
          exact (Prod.ext e1 e2).symm
      rw [this]
    unfold setN
    split
    · rename_i e
      subst e
      rw [addSBit, h.bit x hx p, Bool.eq_iff_iff, Bool.or_eq_true, decide_eq_true_iff, decide_eq_true_iff, decide_eq_true_iff, key]
      constructor
      · rintro (⟨h1, h2⟩ | rfl)
        · exact ⟨h1, .inl h2⟩
        · exact ⟨ha, .inr ⟨rfl, rfl⟩⟩
      · rintro ⟨h1, h2 | ⟨h2, _⟩⟩
        · exact .inl ⟨h1, h2⟩
        · exact .inr h2.symm
    · rename_i e
      rw [h.bit x hx p, decide_eq_decide, key]
      constructor
      · rintro ⟨h1, h2⟩; exact ⟨h1, .inl h2⟩
      · rintro ⟨h1, h2 | ⟨_, h2⟩⟩
        · exact ⟨h1, h2⟩
        · exact absurd h2 e
theorem prdEnd {N : Nat} {l : Prs} {k : Nat} {B : Nat → Nat} (h : PrdTo N l k B) (hk : l.length ≤ k) {b : Nat} (hb : b < N) : B b = prdS N (hasP l) b := by
  refine Nat.eq_of_testBit_eq fun p => ?_
  rw [h.bit b hb, prdBit, List.take_of_length_le hk]
  unfold hasP
  rw [Bool.eq_iff_iff, Bool.and_eq_true, decide_eq_true_iff, decide_eq_true_iff, decide_eq_true_iff]
end Go.Proofs.YtjioiaeiggjneaaDoor
