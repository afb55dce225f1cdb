/-
  Rows of numbers of the call's own: what they hold, cell by cell.
-/
import Derived.Test.YtpfdhjmhoggioaaRowB
namespace Go.Proofs.Ytpfdhjmhoggioaa
open Go.RowKit Go.Maps

/-- Numbers as integers. -/
def ni (l : List Nat) : List Int := l.map fun (x : Nat) => (x : Int)
theorem niLen (l : List Nat) : (ni l).length = l.length := by simp [ni]
theorem niAt {l : List Nat} {k : Nat} (hk : k < l.length) : (ni l)[k]'(by rw [niLen]; exact hk) = (l[k] : Int) := by simp [ni]
theorem niApp (l m : List Nat) : ni (l ++ m) = ni l ++ ni m := by simp [ni]
/-- S with d at t. -/
def setN (S : Nat → Nat) (t d x : Nat) : Nat := if x = t then d else S x
/-- Block g is a row of n numbers: those of S. -/
def RowI (w : World) (g n : Nat) (S : Nat → Nat) : Prop := w.ownsRow 0 3 1 (.slice (some ⟨g, 0, none⟩) n n) n ((List.range n).map fun x => .int .i64 (S x))
section
variable {w w' : World} {g n : Nat} {S : Nat → Nat}
theorem RowI.lt (h : RowI w g n S) : g < w.heap.size := (World.ownsRow.lt h g rfl).2
theorem RowI.chg {F : Nat → Prop} (h : RowI w g n S) (hc : Chg w w' F) (hF : F g) : RowI w' g n S := ownChg h hc fun k hk => by
  have : g = k := by simpa [Value.ownBlock] using hk
  exact this ▸ hF
theorem RowI.cell (h : RowI w g n S) {i : Nat} (hi : i < n) : w.cell? ⟨g, i, none⟩ = some (.int .i64 (S i)) := by
  unfold RowI at h
  rw [World.ownsRow.cellAt h i (by omega), List.getElem?_map, List.getElem?_range hi]; rfl
theorem RowI.frozen (h : RowI w g n S) (i : Nat) : w.frozen? ⟨g, i, none⟩ = false := World.ownsRow.frozenAt h i
theorem RowI.set (h : RowI w g n S) (i d : Nat) : RowI (w.setCell ⟨g, i, none⟩ (.int .i64 d)) g n (setN S i d) := by
  have h2 := (World.ownsRow.stored h i (.int .i64 d)).1
  have e : ((List.range n).map fun x => Value.int .i64 (S x : Int)).set i (.int .i64 d) = (List.range n).map fun x => Value.int .i64 (setN S i d x : Int) := by
    refine List.ext_getElem? fun k => ?_
    rw [List.getElem?_set]
    by_cases hk : k < n
    · rw [List.getElem?_map, List.getElem?_range hk, List.getElem?_map, List.getElem?_range hk, List.length_map, List.length_range]
      by_cases e : i = k
      · subst e
        rw [if_pos rfl, if_pos hk]
        simp [setN]
      · rw [if_neg e]
        simp [setN, Ne.symm e]
    · rw [List.getElem?_eq_none (by simp; omega), List.getElem?_eq_none (by simp; omega)]
      split
      · rw [if_neg (by simp; omega)]
      · rfl
  unfold RowI
  rw [← e]
  exact h2
theorem RowI.congr {T : Nat → Nat} (h : RowI w g n S) (e : ∀ x, x < n → S x = T x) : RowI w g n T := by
  have e2 : (List.range n).map (fun x => Value.int .i64 (S x : Int)) = (List.range n).map fun x => Value.int .i64 (T x : Int) := List.map_congr_left fun x hx => by rw [e x (List.mem_range.1 hx)]
  unfold RowI
  rw [← e2]
  exact h
theorem rowINew {w : World} {g N : Nat} (h : w.heap[g]? = some (.cells (madeCells #[.int .i64 0] N) 3 (0, 0))) (hN : N ≤ maxLen) : RowI w g N (fun _ => 0) := by
  have e : (madeCells #[Value.int .i64 0] N).toList = (List.range N).map fun _ => Value.int .i64 0 := by rw [List.map_const', List.length_range]; exact toList_madeCells_one _ _
  have hs : (madeCells #[Value.int .i64 0] N).size = N := by rw [← Array.length_toList, e]; simp
  refine ⟨by simp, .inr ⟨g, N, _, rfl, Nat.zero_le _, h, Nat.le_refl _, hN, by omega, ?_⟩⟩
  rw [List.take_of_length_le (by rw [Array.length_toList]; omega), e]
  rfl
end
end Go.Proofs.Ytpfdhjmhoggioaa
