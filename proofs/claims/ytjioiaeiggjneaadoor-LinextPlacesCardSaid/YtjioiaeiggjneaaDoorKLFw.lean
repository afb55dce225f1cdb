/-
  What the laws share: few; how many extensions there can be; the k-th extension by Nth, Rank and Is.
-/
import Derived.Test.YtjioiaeiggjneaaDoorKLAw
import Derived.Test.YtjioiaeiggjneaaDoorKNth
import Derived.Test.YtjioiaeiggjneaaDoorKRRefV
import Derived.Test.YtjioiaeiggjneaaDoorKRRefA
namespace Go.Proofs.YtjioiaeiggjneaaDoor
open Go Go.RowKit

theorem retLw {a b : Bool} (h : a = b) : Ending.returned (.bool a) = .returned (.bool b) := by rw [h]
def fewB (N : Int) (n : Nat) (k : Int) : Bool := decide (N ≤ k) && decide (n ≤ 60)
theorem lFew (N : Int) (n : Nat) (k : Int) (A : Option Addr) (c : Nat) (w : World) : Calls Tryd.prog 4 #[relV N A n c, .int .i64 k] w fun e w' => e = .returned (.bool (fewB N n k)) ∧ Below w.heap.size w w' := by
  obtain ⟨r, hr⟩ : ∃ r, fewB N n k = r := ⟨_, rfl⟩
  rw [hr]
  have hb0 := belowAlloc w (.cells #[.int .i64 N, .slice A n c] 24)
  by_cases h1 : N ≤ k
  · have e1 : decide (N ≤ k) = true := decide_eq_true h1
    have HX : Hid (decide (n ≤ 60) = r) := Lib.hid (by rw [← hr]; unfold fewB; rw [e1]; rfl)
    clear hr
    by_cases h2 : n ≤ 60
    · have HY := Lib.hid (show true = r by rw [← HX.out, decide_eq_true h2])
      go_enter Tryd.func4, Tryd.ntmps4
      go_wp2
      all_goals first
        | (exfalso; omega)
        | (go_ret; exact ⟨retLw (by first | exact HY.out | (rw [← HY.out]; simp; omega)), hb0⟩)
    · have HY := Lib.hid (show false = r by rw [← HX.out, decide_eq_false h2])
      go_enter Tryd.func4, Tryd.ntmps4
      go_wp2
      all_goals first
        | (exfalso; omega)
        | (go_ret; exact ⟨retLw (by first | exact HY.out | (rw [← HY.out]; simp; omega)), hb0⟩)
  · have e1 : decide (N ≤ k) = false := decide_eq_false h1
    have HY := Lib.hid (show false = r by rw [← hr]; unfold fewB; rw [e1]; rfl)
    clear hr
    go_enter Tryd.func4, Tryd.ntmps4
    go_wp2
    all_goals first
      | (exfalso; omega)
      | (go_ret; exact ⟨retLw HY.out, hb0⟩)
theorem sumLe {g : Nat → Nat} {b : Nat} : ∀ {L : List Nat}, (∀ x ∈ L, g x ≤ b) → (L.map g).sum ≤ L.length * b
  | [], _ => by simp
  | a :: L, h => by
    rw [List.map_cons, List.sum_cons, List.length_cons, Nat.add_mul, Nat.one_mul]
    have h1 := h a (by simp)
    have h2 := sumLe (L := L) fun x hx => h x (by simp [hx])
    omega
theorem waysPow {N : Nat} {f : Nat → Nat → Bool} : ∀ {k s : Nat}, ways N f k s ≤ N ^ k
  | 0, s => by simp [waysZero]
  | k + 1, s => by
    rw [waysSucc]
    have h1 : (nxtL N f s).length ≤ N := by
      unfold nxtL
      exact Nat.le_trans (List.length_filter_le _ _) (by simp)
    refine Nat.le_trans (sumLe (b := N ^ k) fun x _ => waysPow) ?_
    rw [Nat.pow_succ, Nat.mul_comm]
    exact Nat.mul_le_mul_left _ h1
theorem waysSix {N : Nat} (h : N ≤ 6) {f : Nat → Nat → Bool} : ways N f N 0 ≤ 46656 :=
  Nat.le_trans waysPow (Nat.le_trans (Nat.pow_le_pow_left h _) (Nat.le_trans (Nat.pow_le_pow_right (by decide) h) (by decide)))
/-- The i-th extension. -/
theorem extAt {N : Nat} {f : Nat → Nat → Bool} {i : Nat} (hi : i < (exts N f N 0).length) : nthL N f N 0 i = (exts N f N 0)[i] ∧ rnk N f N 0 (nats (nI (exts N f N 0)[i])) = i ∧ allowB N f (nI (exts N f N 0)[i]) = true := by
  have he : (exts N f N 0)[i]? = some (exts N f N 0)[i] := List.getElem?_eq_getElem hi
  have hm := extsMem.1 (List.getElem_mem hi)
  have hn : ∀ l : List Nat, nats (nI l) = l := fun l => by
    unfold nats nI
    rw [List.map_map]
    exact (List.map_congr_left fun a _ => by simp).trans (List.map_id _)
  refine ⟨nthGet he, by rw [hn]; exact rnkGet he, ?_⟩
  unfold allowB
  have hl : (nI (exts N f N 0)[i]).length = N := by unfold nI; rw [List.length_map]; exact hm.1
  rw [decide_eq_true hl, Bool.true_and]
  have ok : ∀ (l : List Nat) (s : Nat), okL N f s l = true → okI N f s (nI l) = true := by
    intro l
    induction l with
    | nil => intro s _; rfl
    | cons a l ih =>
      intro s h
      rw [okL, Bool.and_eq_true, Bool.and_eq_true, decide_eq_true_iff] at h
      unfold nI
      rw [List.map_cons, okI]
      have e : (Int.ofNat a).toNat = a := by simp
      rw [e, nxtSBit, decide_eq_true (nxtMem.2 h.1), Bool.and_true]
      have := ih _ h.2
      unfold nI at this
      rw [this]
      simp
  exact ok _ _ hm.2
end Go.Proofs.YtjioiaeiggjneaaDoor
